package pickle_test

import (
	"math/rand"
	"slices"
	"testing"

	"smalto/api"
	"smalto/pickle"
)

// P6.2, P6.12: Strengths against the strength in each truth.
func TestStrengthsInAllTruths(t *testing.T) {
	r := rand.New(rand.NewSource(1))
	gone := 0
	for range 4000 {
		b := someBath(r, api.MaxPickleStrength, 5, api.MaxPicklePlates, some(r, 1, 40))
		order := someOrder(r, b, api.MaxPicklePlates)
		want := make([]api.Span, len(order)+1)
		for strength := b.Strength.Low; strength <= b.Strength.High; strength++ {
			for i, s := range before(b, strength, order) {
				want[i] = wider(want[i], s, strength == b.Strength.Low)
			}
		}
		got, e := pickle.Strengths(b, order)
		if !slices.Equal(got, want) || e != api.OK {
			t.Error(b, order, got, e, want)
		}
		if got[len(order)].Low == 0 && got[len(order)].High > 0 {
			gone++
		}
	}
	if gone < 150 {
		t.Error("too few acids are used up:", gone)
	}
}

// P6.3, P6.12: Out against how plates come out in each truth.
func TestOutInAllTruths(t *testing.T) {
	r := rand.New(rand.NewSource(2))
	many := map[string]int{}
	for i := range 3000 {
		b := someBath(r, 12, []int{6, 40, 120}[i%3], 3, 4)
		l := someSteps(r, b, 3, []int{3, 8, 24}[r.Intn(3)])
		want := make([]map[api.PickleHow]bool, len(l))
		truths(b, func(strength int, rusts []int) {
			for i, how := range outs(b, strength, rusts, l) {
				if want[i] == nil {
					want[i] = map[api.PickleHow]bool{}
				}
				want[i][how] = true
			}
		})
		got, e := pickle.Out(b, l)
		if len(got) != len(l) || e != api.OK {
			t.Fatal(b, l, got, e)
		}
		for i := range l {
			name, all := "", ways()
			for how := dirty; how <= eaten; how++ {
				if want[i][how] {
					all = append(all, how)
					name += string(rune('0' + how))
				}
			}
			many[name]++
			if !slices.Equal(got[i], all) {
				t.Error(b, l, i, got[i], all)
			}
		}
	}
	for _, name := range []string{"1", "2", "3", "12", "23", "13", "123"} {
		if many[name] < 20 {
			t.Error("too few plates come out so:", name, many)
		}
	}
}

// P6.4, P6.12: for the hours of Hours a plate is good in all truths, for any others it is not, in some truth.
func TestHoursInAllTruths(t *testing.T) {
	r := rand.New(rand.NewSource(3))
	none, one, more, end := 0, 0, 0, 0
	for i := range 8000 {
		b := someBath(r, []int{6, 15, 40}[i%3], []int{20, 60, 300}[r.Intn(3)], api.MaxPicklePlates, 4)
		l := someSteps(r, b, 4, 24)
		n := some(r, 0, 5)
		got, e := pickle.Hours(b, l, n)
		if n >= len(b.Plates) || slices.Contains(plates(l), n) {
			if got != span(0, 0) || e != api.ErrNone {
				t.Error(b, l, n, got, e)
			}
			continue
		}
		want := well(b, plates(l), n)
		if len(want) == 0 {
			none++
			if got != span(0, 0) || e != api.ErrState {
				t.Error(b, l, n, got, e)
			}
			continue
		}
		if got != span(want[0], want[len(want)-1]) || got.High-got.Low+1 != len(want) || e != api.OK {
			t.Error(b, l, n, got, e, want)
		}
		for hours := 1; hours <= api.MaxPickleHours; hours++ {
			out, e := pickle.Out(b, append(slices.Clone(l), step(n, hours)))
			if slices.Equal(out[len(l)], ways(good)) != holds(got, hours) || e != api.OK {
				t.Error(b, l, n, got, hours, out, e)
			}
		}
		switch {
		case len(want) == 1:
			one++
		case got.High == api.MaxPickleHours:
			end++
		default:
			more++
		}
	}
	if none < 200 || one < 200 || more < 200 || end < 50 {
		t.Error("too few plates of a kind:", none, one, more, end)
	}
}

// P6.5, P6.13: Order against all orders; by it all plates are good in each truth.
func TestOrderOfAll(t *testing.T) {
	r := rand.New(rand.NewSource(4))
	var many [api.MaxPicklePlates + 1]int
	none, moved, later := 0, 0, 0
	for i := range 1500 {
		b := someBath(r, []int{12, 25, 40}[i%3], []int{20, 60, 150}[r.Intn(3)], api.MaxPicklePlates, 2)
		for n := range b.Plates {
			b.Plates[n].Takes = some(r, 0, []int{2, 4, 10}[r.Intn(3)])
		}
		var all []int
		for n := range b.Plates {
			all = append(all, n)
		}
		want, ok := pickled(b, all)
		got, e := pickle.Order(b)
		if !ok {
			none++
			if len(got) != 0 || e != api.ErrState {
				t.Error(b, got, e)
			}
			continue
		}
		many[len(got)]++
		if !slices.Equal(got, want) || e != api.OK {
			t.Error(b, got, e, want)
		}
		if !slices.Equal(plates(got), all) {
			moved++
		}
		out, e := pickle.Out(b, got)
		for _, l := range out {
			if !slices.Equal(l, ways(good)) || e != api.OK {
				t.Error(b, got, out, e)
			}
		}
		for n, s := range got {
			hours, e := pickle.Hours(b, got[:n], s.Plate)
			if hours.Low != s.Hours || e != api.OK {
				t.Error(b, got, n, hours, e)
			}
			if alone, e := pickle.Hours(b, nil, s.Plate); e == api.ErrState || alone.Low > s.Hours {
				later++
			}
		}
	}
	if none < 300 || moved < 150 || later < 5 || many[2] < 50 || many[3] < 50 || many[4] < 20 || many[5] < 20 {
		t.Error("too few orders of a kind:", none, moved, later, many)
	}
}

// filled returns the smallest list of the fillings of all plates, of the fewest ones, by trying all lists, how many there are, and whether there is one.
func filled(b api.PickleBath) (best []int, fewest int, ok bool) {
	known := map[string]bool{}
	lists(len(b.Plates), len(b.Plates)-1, func(l []int) {
		high := -1
		for _, n := range l {
			high = max(high, n)
		}
		if ok && high+1 >= fewest {
			return
		}
		for n := range high + 1 {
			var set []int
			name := ""
			for plate, to := range l {
				if to == n {
					set = append(set, plate)
					name += string(rune('0' + plate))
				}
			}
			goes, is := known[name]
			if !is {
				_, goes = pickled(b, set)
				known[name] = goes
			}
			if !goes {
				return
			}
		}
		best, fewest, ok = slices.Clone(l), high+1, true
	})
	return best, fewest, ok
}

// P6.6, P6.13: Fillings against all lists of fillings, for each of which there is an order.
func TestFewestFillings(t *testing.T) {
	r := rand.New(rand.NewSource(5))
	var many [api.MaxPicklePlates + 1]int
	none, helped, back := 0, 0, 0
	for i := range 1500 {
		b := someBath(r, []int{12, 25, 40}[i%3], []int{20, 60, 150}[r.Intn(3)], api.MaxPicklePlates, 2)
		for n := range b.Plates {
			p := &b.Plates[n]
			p.Takes, p.Thin = some(r, 0, []int{2, 5, 10}[r.Intn(3)]), max(p.Thin, some(r, 0, 60))
		}
		want, fewest, ok := filled(b)
		got, e := pickle.Fillings(b)
		if !ok {
			none++
			if len(got) != 0 || e != api.ErrState {
				t.Error(b, got, e)
			}
			continue
		}
		many[fewest]++
		if !slices.Equal(got, want) || e != api.OK {
			t.Error(b, got, e, want)
		}
		if !slices.IsSorted(got) {
			back++
		}
		for n := range fewest {
			one := api.PickleBath{Strength: b.Strength}
			for plate, to := range got {
				if to == n {
					one.Plates = append(one.Plates, b.Plates[plate])
				}
			}
			if l, e := pickle.Order(one); len(l) == 0 || e != api.OK {
				t.Error(b, got, n, l, e)
			}
		}
		for n := range b.Plates {
			if _, e := pickle.Hours(b, nil, n); e != api.OK {
				helped++
			}
		}
	}
	if none < 200 || helped < 5 || back < 20 || many[1] < 200 || many[2] < 50 || many[3] < 10 {
		t.Error("too few fillings of a kind:", none, helped, back, many)
	}
}

// P6.7, P6.14: Mix against the strength of the mixture, whatever the strengths of the acids are.
func TestMixOfAll(t *testing.T) {
	r := rand.New(rand.NewSource(6))
	even, uneven := 0, 0
	for range 3000 {
		l := someAcids(r, 4, []int{5, 200}[r.Intn(2)], 4)
		got, e := pickle.Mix(l)
		ounces, least, most := 0, -1, -1
		for _, a := range l {
			ounces += a.Ounces
		}
		var from func(i, sum int)
		from = func(i, sum int) {
			if i == len(l) {
				if sum < got.Low*ounces || sum > got.High*ounces {
					t.Error(l, got, sum)
				}
				if least < 0 || sum < least {
					least = sum
				}
				most = max(most, sum)
				return
			}
			for s := l[i].Strength.Low; s <= l[i].Strength.High; s++ {
				from(i+1, sum+s*l[i].Ounces)
			}
		}
		from(0, 0)
		if least >= (got.Low+1)*ounces || most <= (got.High-1)*ounces || e != api.OK {
			t.Error(l, got, e, least, most)
		}
		if least%ounces == 0 && most%ounces == 0 {
			even++
		} else {
			uneven++
		}
	}
	if even < 100 || uneven < 500 {
		t.Error("too few acids of a kind:", even, uneven)
	}
}

// P6.8, P6.14: Water against Mix of the acids with acid of the strength 0, for all ounces.
func TestWaterOfAll(t *testing.T) {
	r := rand.New(rand.NewSource(7))
	none, found, low, high := 0, 0, 0, 0
	for i := range 1500 {
		l := someAcids(r, 2, []int{20, 100, 200}[i%3], 4)
		want := someSpan(r, 0, []int{10, 40}[r.Intn(2)], 5)
		var in []int
		for water := range api.MaxPickleWater + 1 {
			with := slices.Clone(l)
			for left := water; left > 0; left -= api.MaxPickleOunces {
				with = append(with, acid(min(left, api.MaxPickleOunces), 0, 0))
			}
			mix, e := pickle.Mix(with)
			if e != api.OK {
				t.Fatal(with, mix, e)
			}
			if inside(mix, want) {
				in = append(in, water)
			}
		}
		got, e := pickle.Water(l, want)
		if len(in) == 0 {
			none++
			if got != span(0, 0) || e != api.ErrNone {
				t.Error(l, want, got, e)
			}
			continue
		}
		if got != span(in[0], in[len(in)-1]) || got.High-got.Low+1 != len(in) || e != api.OK {
			t.Error(l, want, got, e, in)
		}
		found++
		if got.Low == 0 {
			low++
		}
		if got.High == api.MaxPickleWater {
			high++
		}
	}
	if none < 100 || found < 300 || low < 50 || high < 50 {
		t.Error("too few waters of a kind:", none, found, low, high)
	}
}

// told returns the strength and the rust of all plates, over all truths in which all but some things came out as was seen, and whether there is one.
func told(b api.PickleBath, l []api.PickleSeen, but []int) (strength api.Span, rusts []api.Span, ok bool) {
	rusts = make([]api.Span, len(b.Plates))
	by := stepsOf(l)
	truths(b, func(s int, rust []int) {
		for i, how := range outs(b, s, rust, by) {
			if how != l[i].How && !slices.Contains(but, i) {
				return
			}
		}
		strength = wider(strength, s, !ok)
		for n := range rusts {
			rusts[n] = wider(rusts[n], rust[n], !ok)
		}
		ok = true
	})
	if !ok {
		return api.Span{}, nil, false
	}
	return strength, rusts, ok
}

// P6.9, P6.15: Was against all truths; with one thing more that was seen no span is wider.
func TestWasInAllTruths(t *testing.T) {
	r := rand.New(rand.NewSource(8))
	none, narrow, both := 0, 0, 0
	for i := range 6000 {
		b := someBath(r, 12, []int{10, 20, 50}[i%3], 3, 8)
		l := someSights(r, b, someSteps(r, b, 3, 6), some(r, 0, 1))
		for many := range len(l) + 1 {
			strength, rusts, ok := told(b, l[:many], nil)
			got, gots, e := pickle.Was(b, l[:many])
			if !ok {
				none++
				if got != span(0, 0) || len(gots) != 0 || e != api.ErrState {
					t.Error(b, l[:many], got, gots, e)
				}
				break
			}
			if got != strength || !slices.Equal(gots, rusts) || e != api.OK {
				t.Error(b, l[:many], got, gots, e, strength, rusts)
			}
			if many == 0 {
				continue
			}
			was, wases, e := pickle.Was(b, l[:many-1])
			if !inside(got, was) || e != api.OK {
				t.Error(b, l[:many], got, was, e)
			}
			less := 0
			for n := range gots {
				if !inside(gots[n], wases[n]) {
					t.Error(b, l[:many], n, gots, wases)
				}
				if gots[n] != wases[n] {
					less++
				}
			}
			if got != was {
				narrow++
			}
			if less > 1 {
				both++
			}
		}
	}
	if none < 300 || narrow < 300 || both < 10 {
		t.Error("too few baths of a kind:", none, narrow, both)
	}
}

// P6.9, P6.15: what truly was lies in Was, also of wide baths with as many plates as there may be.
func TestWasWhatWas(t *testing.T) {
	r := rand.New(rand.NewSource(9))
	for range 3000 {
		b := someBath(r, api.MaxPickleStrength, api.MaxPickleRust, api.MaxPicklePlates, 300)
		var rusts []int
		for n := range b.Plates {
			p := &b.Plates[n]
			p.Thin = min(p.Thin, api.MaxPickleThin)
			rusts = append(rusts, some(r, p.Rust.Low, p.Rust.High))
		}
		strength := some(r, b.Strength.Low, b.Strength.High)
		l := someSteps(r, b, api.MaxPicklePlates, api.MaxPickleHours)
		var as []api.PickleSeen
		for i, how := range outs(b, strength, rusts, l) {
			as = append(as, api.PickleSeen{Step: l[i], How: how})
		}
		got, gots, e := pickle.Was(b, as)
		if !holds(got, strength) || len(gots) != len(rusts) || e != api.OK {
			t.Fatal(b, as, got, gots, e)
		}
		for n, rust := range rusts {
			if !holds(gots[n], rust) {
				t.Error(b, as, n, gots, rusts)
			}
		}
		if wrong, e := pickle.Wrong(b, as); len(wrong) != 0 || e != api.ErrTwice {
			t.Error(b, as, wrong, e)
		}
	}
}

// P6.10, P6.15: Wrong against all sets of things that were seen; no more than those that were seen wrong.
func TestFewestWrong(t *testing.T) {
	r := rand.New(rand.NewSource(10))
	var many [4]int
	later := 0
	for i := range 3000 {
		b := someBath(r, 12, []int{8, 20, 50}[i%3], 4, 3)
		lies := some(r, 0, 3)
		l := someSights(r, b, someSteps(r, b, 4, 6), lies)
		var want []int
		found := false
		sets(len(l), func(set []int) {
			if found && (len(set) > len(want) || len(set) == len(want) && slices.Compare(set, want) > 0) {
				return
			}
			if _, _, ok := told(b, l, set); ok {
				want, found = set, true
			}
		})
		e := api.OK
		if len(want) == 0 {
			e = api.ErrTwice
		}
		got, is := pickle.Wrong(b, l)
		if !slices.Equal(got, want) || is != e || !found || len(got) > lies {
			t.Error(b, l, got, is, want, lies)
		}
		many[len(want)]++
		if len(want) > 0 && len(want) < len(l) && want[0] > 0 {
			later++
		}
	}
	if slices.Min(many[:]) < 30 || later < 100 {
		t.Error("too few things are wrong:", many, later)
	}
}

// P6.11, P6.16: Missing against all truths.
func TestMissingInAllTruths(t *testing.T) {
	r := rand.New(rand.NewSource(11))
	none, zero, more := 0, 0, 0
	for i := range 3000 {
		full, left := someSpan(r, 0, 30, 6), someSpan(r, 0, []int{10, 20, 30}[i%3], 6)
		var used []api.Span
		for range some(r, 0, 3) {
			used = append(used, someSpan(r, 0, 10, 4))
		}
		var want api.Span
		ok := false
		for f := full.Low; f <= full.High; f++ {
			for l := left.Low; l <= left.High; l++ {
				var from func(i, rest int)
				from = func(i, rest int) {
					if i < len(used) {
						for u := used[i].Low; u <= used[i].High; u++ {
							from(i+1, rest-u)
						}
					} else if rest >= 0 {
						want, ok = wider(want, rest, !ok), true
					}
				}
				from(0, f-l)
			}
		}
		got, e := pickle.Missing(full, used, left)
		if !ok {
			none++
			if got != span(0, 0) || e != api.ErrState {
				t.Error(full, used, left, got, e)
			}
			continue
		}
		if got != want || e != api.OK {
			t.Error(full, used, left, got, e, want)
		}
		if got.Low == 0 && got.High > 0 {
			zero++
		} else {
			more++
		}
	}
	if none < 100 || zero < 300 || more < 300 {
		t.Error("too few carboys of a kind:", none, zero, more)
	}
}
