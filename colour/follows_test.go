package colour_test

import (
	"math/rand"
	"slices"
	"testing"

	"smalto/api"
	"smalto/colour"
)

// P1.2, P1.3, P1.10: Is and Firings against all truths of small sets, and of all plans of up to three colours.
func TestInAllTruths(t *testing.T) {
	r := rand.New(rand.NewSource(1))
	for n, s := range someSets(r) {
		all := truths(s)
		var tried [][][]int
		if len(s.Paints) <= 3 {
			for _, l := range lists(len(s.Paints)) {
				tried = append(tried, everyPlan(l)...)
			}
		} else {
			for range 40 {
				tried = append(tried, somePlan(r, s))
			}
		}
		for _, plan := range tried {
			surely, possibly := judge(s, all, plan)
			a, b, e := colour.Is(s, plan)
			if a != surely || b != possibly || e != api.OK {
				t.Error(n, s, plan, a, b, e)
			}
			each, many := count(s, plan)
			if x, y, e := colour.Firings(s, plan); !slices.Equal(x, each) || y != many || e != api.OK {
				t.Error(n, s, plan, x, y, e)
			}
		}
	}
}

// P1.10: with wide spans a plan that surely is right is right in each truth that is tried, and one that is right in one possibly is.
func TestInTruthsThatAreTried(t *testing.T) {
	r := rand.New(rand.NewSource(2))
	sure := 0
	for range 3000 {
		s := api.ColourSet{Near: r.Intn(101), Give: 50 + r.Intn(51)}
		for range 1 + r.Intn(api.MaxColours) {
			heat, stretch := r.Intn(900), r.Intn(150)
			s.Paints = append(s.Paints, paint(span(heat, heat+r.Intn(100)), span(stretch, stretch+r.Intn(50)), 1+r.Intn(3), 1+r.Intn(12)))
		}
		plan := somePlan(r, s)
		surely, possibly, _ := colour.Is(s, plan)
		for range 10 {
			is := right(s, anyTruth(r, s), plan)
			if surely && !is || is && !possibly || surely && !possibly {
				t.Error(s, plan, surely, possibly, is)
			}
		}
		if surely {
			sure++
		}
	}
	if sure < 100 {
		t.Error("too few plans surely are right:", sure)
	}
}

// P1.4, P1.10: at each heat of Heats, and at no other one, the round's colours melt and no earlier one runs.
func TestMeltAndRun(t *testing.T) {
	r := rand.New(rand.NewSource(3))
	sure := 0
	for _, s := range someSets(r) {
		all := truths(s)
		for range 20 {
			plan := somePlan(r, s)
			heats, e := colour.Heats(s, plan)
			if surely, _ := judge(s, all, plan); !surely {
				if e != api.ErrState || len(heats) != 0 {
					t.Error(s, plan, heats, e)
				}
				continue
			}
			sure++
			if len(heats) != len(plan) || e != api.OK {
				t.Fatal(s, plan, heats, e)
			}
			for i, h := range heats {
				for at := range api.MaxColourHeat + 2 {
					if may(all, plan, i, at) != (h.Low <= at && at <= h.High) {
						t.Error(s, plan, i, at, heats)
					}
				}
			}
		}
	}
	if sure < 100 {
		t.Error("too few plans surely are right:", sure)
	}
}

// may tells whether the furnace may be at some heat in a round of a plan.
func may(all []truth, plan [][]int, round, at int) bool {
	for _, x := range all {
		for i, l := range plan[:round+1] {
			for _, c := range l {
				if i == round && x.heat[c] > at || i < round && x.heat[c] <= at {
					return false
				}
			}
		}
	}
	return at <= api.MaxColourHeat
}

// best finds the plan with the fewest firings, and the smallest of several, among all plans.
func best(s api.ColourSet, all []truth, colours []int) (out [][]int, ok bool) {
	least := 0
	for _, plan := range everyPlan(colours) {
		if surely, _ := judge(s, all, plan); !surely {
			continue
		}
		_, many := count(s, plan)
		if !ok || many < least || many == least && comparePlans(plan, out) < 0 {
			out, least, ok = plan, many, true
		}
	}
	return out, ok
}

// P1.5, P1.6, P1.7, P1.12: Plan, Bar and With against all plans and all truths.
func TestAgainstAllPlans(t *testing.T) {
	r := rand.New(rand.NewSource(4))
	planned, barred := 0, 0
	for n, s := range someSets(r) {
		all, many := truths(s), len(s.Paints)
		if many == api.MaxColours && n%3 > 0 {
			continue
		}
		can := map[string]bool{}
		var bars [][]int
		for _, l := range lists(many) {
			want, ok := best(s, all, l)
			can[key(l)] = ok
			if !ok {
				bars = append(bars, l)
			}
			plan, e := colour.Plan(s, l)
			bar, f := colour.Bar(s, l)
			if ok {
				planned++
				if !equalPlans(plan, want) || e != api.OK || len(bar) != 0 || f != api.ErrTwice {
					t.Error(s, l, plan, e, want, bar, f)
				}
				continue
			}
			barred++
			first := bars[slices.IndexFunc(bars, func(b []int) bool { return !slices.ContainsFunc(b, func(c int) bool { return !slices.Contains(l, c) }) })]
			if len(plan) != 0 || e != api.ErrNone || !slices.Equal(bar, first) || f != api.OK {
				t.Error(s, l, plan, e, bar, f, first)
			}
		}
		for _, l := range lists(many) {
			var want []int
			for c := range many {
				if !slices.Contains(l, c) && can[key(append(slices.Clone(l), c))] {
					want = append(want, c)
				}
			}
			if with, e := colour.With(s, l); !slices.Equal(with, want) || e != api.OK {
				t.Error(s, l, with, e, want)
			}
		}
	}
	if planned < 200 || barred < 200 {
		t.Error("too few lists of a kind:", planned, barred)
	}
}

// key names a set of colours.
func key(colours []int) string {
	l := slices.Sorted(slices.Values(colours))
	out := ""
	for _, c := range l {
		out += string(rune('a' + c))
	}
	return out
}

// P1.11: Plan has all its colours, surely is right, and no plan that is tried has fewer firings; less is not dearer.
func TestFewestFirings(t *testing.T) {
	r := rand.New(rand.NewSource(5))
	for _, s := range someSets(r) {
		s.Give += 2
		colours := lists(len(s.Paints))[r.Intn(1<<len(s.Paints))]
		plan, e := colour.Plan(s, colours)
		if e != api.OK {
			continue
		}
		surely, _, _ := colour.Is(s, plan)
		if got := slices.Sorted(slices.Values(slices.Concat(plan...))); !surely || !slices.Equal(got, colours) {
			t.Error(s, plan, surely)
		}
		_, fewest, _ := colour.Firings(s, plan)
		for _, other := range everyPlan(colours) {
			surely, _, _ := colour.Is(s, other)
			if _, many, _ := colour.Firings(s, other); surely && many < fewest {
				t.Error(s, plan, other)
			}
		}
		for i, round := range plan {
			if len(round) > 1 {
				less := slices.Clone(plan)
				less[i] = round[1:]
				noMore(t, s, slices.Sorted(slices.Values(slices.Concat(less...))), fewest)
			}
		}
		near, give, most := s, s, s
		near.Near++
		give.Give++
		most.Paints = slices.Clone(s.Paints)
		for c := range most.Paints {
			most.Paints[c].Most++
		}
		noMore(t, near, colours, fewest)
		noMore(t, give, colours, fewest)
		noMore(t, most, colours, fewest)
	}
}

// noMore fails if the plan of some colours has more firings than so many, or if there is none.
func noMore(t *testing.T, s api.ColourSet, colours []int, most int) {
	t.Helper()
	plan, e := colour.Plan(s, colours)
	if _, many, _ := colour.Firings(s, plan); e != api.OK || many > most {
		t.Error(s, colours, plan, e, most)
	}
}

// P1.8, P1.9, P1.13, P1.14: Told and Wrong against all truths.
func TestAgainstAllTruths(t *testing.T) {
	r := rand.New(rand.NewSource(6))
	told, wrong := 0, 0
	for _, s := range someSets(r) {
		all := truths(s)
		for range 12 {
			var trials [][][]int
			for range r.Intn(4) {
				trials = append(trials, somePlan(r, s))
			}
			heats, stretches, ok := among(s, all, trials)
			a, b, e := colour.Told(s, trials)
			c, f := colour.Wrong(s, trials)
			if ok {
				told++
				if !slices.Equal(a, heats) || !slices.Equal(b, stretches) || e != api.OK || len(c) != 0 || f != api.ErrTwice {
					t.Error(s, trials, a, b, e, c, f)
				}
				continue
			}
			wrong++
			if want := fewestWrong(s, all, trials); len(a)+len(b) != 0 || e != api.ErrState || !slices.Equal(c, want) || f != api.OK {
				t.Error(s, trials, a, b, e, c, f, want)
			}
		}
	}
	if told < 200 || wrong < 200 {
		t.Error("too few trials of a kind:", told, wrong)
	}
}

// among finds the spans of the truths in which all plans are right.
func among(s api.ColourSet, all []truth, trials [][][]int) (heats, stretches []api.Span, ok bool) {
	for _, x := range all {
		if slices.ContainsFunc(trials, func(plan [][]int) bool { return !right(s, x, plan) }) {
			continue
		}
		for c := range s.Paints {
			if !ok {
				heats = append(heats, span(x.heat[c], x.heat[c]))
				stretches = append(stretches, span(x.stretch[c], x.stretch[c]))
			}
			heats[c] = span(min(heats[c].Low, x.heat[c]), max(heats[c].High, x.heat[c]))
			stretches[c] = span(min(stretches[c].Low, x.stretch[c]), max(stretches[c].High, x.stretch[c]))
		}
		ok = true
	}
	return heats, stretches, ok
}

// fewestWrong finds the plans without which all others are right in one truth.
func fewestWrong(s api.ColourSet, all []truth, trials [][][]int) []int {
	for _, drop := range lists(len(trials)) {
		if _, _, ok := among(s, all, others(trials, drop)); ok {
			return drop
		}
	}
	return nil
}

// others returns the plans whose numbers are not in a list.
func others(trials [][][]int, drop []int) [][][]int {
	var out [][][]int
	for i, plan := range trials {
		if !slices.Contains(drop, i) {
			out = append(out, plan)
		}
	}
	return out
}

// P1.13: the truth in which plans were right lies in Told, and one plan more widens no span.
func TestToldHasTheTruth(t *testing.T) {
	r := rand.New(rand.NewSource(7))
	narrower := 0
	for range 400 {
		s := someSet(r, 1+r.Intn(api.MaxColours), 6)
		x := anyTruth(r, s)
		var trials [][][]int
		heats, stretches, _ := colour.Told(s, nil)
		for range 40 {
			plan := somePlan(r, s)
			if len(trials) == api.MaxColourTrials || !right(s, x, plan) {
				continue
			}
			trials = append(trials, plan)
			a, b, e := colour.Told(s, trials)
			if e != api.OK {
				t.Fatal(s, x, trials, e)
			}
			for c := range s.Paints {
				if !lies(x.heat[c], a[c]) || !lies(x.stretch[c], b[c]) || !covers(heats[c], a[c]) || !covers(stretches[c], b[c]) {
					t.Error(s, x, trials, a, b)
				}
				if a[c] != heats[c] || b[c] != stretches[c] {
					narrower++
				}
			}
			heats, stretches = a, b
		}
	}
	if narrower < 50 {
		t.Error("too few spans become narrower:", narrower)
	}
}

func lies(n int, s api.Span) bool { return s.Low <= n && n <= s.High }

func covers(wide, s api.Span) bool { return wide.Low <= s.Low && s.High <= wide.High }

// P1.14: no more plans are wrong than were not right; all but those of Wrong can be right, all but fewer cannot.
func TestNoMoreAreWrong(t *testing.T) {
	r := rand.New(rand.NewSource(8))
	found := 0
	for range 600 {
		s := someSet(r, 2+r.Intn(4), 4)
		x := anyTruth(r, s)
		trials := plans(somePlan(r, s), somePlan(r, s), somePlan(r, s))
		bad := 0
		for _, plan := range trials {
			if !right(s, x, plan) {
				bad++
			}
		}
		wrong, e := colour.Wrong(s, trials)
		if e == api.ErrTwice {
			continue
		}
		found++
		if len(wrong) == 0 || len(wrong) > bad || e != api.OK {
			t.Error(s, trials, wrong, e, bad)
		}
		for _, drop := range lists(len(trials)) {
			_, _, e := colour.Told(s, others(trials, drop))
			if slices.Equal(drop, wrong) && e != api.OK || len(drop) < len(wrong) && e != api.ErrState {
				t.Error(s, trials, wrong, drop, e)
			}
		}
	}
	if found < 100 {
		t.Error("too few trials are wrong:", found)
	}
}
