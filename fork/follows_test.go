package fork_test

import (
	"math/rand"
	"slices"
	"testing"

	"smalto/api"
	"smalto/fork"
)

// someKnown returns forks with signs, and what is known of all their loads.
func someKnown(seed int64, many int) []known {
	r := rand.New(rand.NewSource(seed))
	var out []known
	for range many {
		out = append(out, know(someGiven(r)))
	}
	return out
}

// P3.2, P3.3, P3.4, P3.11: Goes, Bars and Heat of all loads against all truths, all lists of bars and all heats.
func TestInAllTruths(t *testing.T) {
	sure, perhaps, never := 0, 0, 0
	for _, k := range someKnown(1, 900) {
		for bits := range 1 << len(k.l) {
			load := numbers(bits)
			surely, possibly, e := fork.Goes(k.r, k.l, load)
			if surely != k.surely[bits] || possibly != k.possibly[bits] || e != api.OK {
				t.Error(k.given, load, surely, possibly, e)
			}
			switch {
			case surely:
				sure++
			case possibly:
				perhaps++
			default:
				never++
			}
			want, ok := k.bars(load)
			on, e := fork.Bars(k.r, k.l, load)
			if !slices.Equal(on, want) || ok != (e == api.OK) || !ok && e != api.ErrNone {
				t.Error(k.given, load, on, e, want)
			}
			heats := k.heats(load)
			heat, e := fork.Heat(k.r, k.l, load)
			if len(heats) == 0 {
				if heat != span(0, 0) || e != api.ErrNone {
					t.Error(k.given, load, heat, e)
				}
			} else if heat != span(heats[0], heats[len(heats)-1]) || len(heats) != heat.High-heat.Low+1 || e != api.OK {
				t.Error(k.given, load, heat, e)
			}
		}
	}
	if sure < 3000 || perhaps < 200 || never < 3000 {
		t.Error("too few loads of a kind:", sure, perhaps, never)
	}
}

// P3.11: a load that surely goes has its bars and its heats, it weighs Load at most, and without any of its signs it surely goes still.
func TestSignsLess(t *testing.T) {
	tried := 0
	for _, k := range someKnown(2, 600) {
		for bits := range 1 << len(k.l) {
			load := numbers(bits)
			if surely, _, _ := fork.Goes(k.r, k.l, load); !surely {
				continue
			}
			on, e := fork.Bars(k.r, k.l, load)
			if !k.lie(load, on) || e != api.OK {
				t.Error(k.given, load, on, e)
			}
			if _, e := fork.Heat(k.r, k.l, load); e != api.OK || slices.Max(k.weights(load)) > k.r.Load {
				t.Error(k.given, load, e)
			}
			for i := range load {
				less := slices.Delete(slices.Clone(load), i, i+1)
				if surely, possibly, e := fork.Goes(k.r, k.l, less); !surely || !possibly || e != api.OK {
					t.Error(k.given, load, less, e)
				}
				tried++
			}
		}
	}
	if tried < 1000 {
		t.Error("too few loads:", tried)
	}
}

// P3.5, P3.6, P3.13: Still and Bar of all loads against all truths of all parts of them.
func TestNotOnOneFork(t *testing.T) {
	still := 0
	var sizes [api.MaxForkSigns + 1]int
	for _, k := range someKnown(3, 600) {
		all := lists(len(k.l))
		for bits := range 1 << len(k.l) {
			load := numbers(bits)
			var others []int
			for s := range k.l {
				if bits>>s&1 == 0 && k.surely[bits|1<<s] {
					others = append(others, s)
				}
			}
			if l, e := fork.Still(k.r, k.l, load); !slices.Equal(l, others) || e != api.OK {
				t.Error(k.given, load, l, e, others)
			}
			still += len(others)
			bar, e := fork.Bar(k.r, k.l, load)
			if k.surely[bits] {
				if len(bar) != 0 || e != api.ErrTwice {
					t.Error(k.given, load, bar, e)
				}
				continue
			}
			best := slices.IndexFunc(all, func(part []int) bool { return bitsOf(part)&^bits == 0 && !k.surely[bitsOf(part)] })
			if !slices.Equal(bar, all[best]) || e != api.OK {
				t.Error(k.given, load, bar, e, all[best])
			}
			sizes[len(bar)]++
			for _, s := range bar {
				if !k.surely[bitsOf(bar)&^(1<<s)] {
					t.Error(k.given, load, bar, s)
				}
			}
		}
	}
	if still < 500 || sizes[1] < 100 || sizes[2] < 100 || sizes[3] < 100 || sizes[4] < 20 {
		t.Error("too few signs of a kind:", still, sizes)
	}
}

// P3.7, P3.12: Loads against all lists of loads.
func TestFewestLoads(t *testing.T) {
	none := 0
	var sizes [api.MaxForkSigns + 1]int
	for _, k := range someKnown(4, 600) {
		many := len(k.l)
		fewest := k.few(1<<many - 1)
		loads, e := fork.Loads(k.r, k.l)
		if fewest < 0 {
			none++
			if len(loads) != 0 || e != api.ErrNone {
				t.Error(k.given, loads, e)
			}
			continue
		}
		sizes[fewest]++
		var best []int
		found := false
		all(many, max(many, 1), func(l []int) {
			if k.fired(l) && distinct(l) < fewest {
				t.Error(k.given, l, fewest)
			}
			if !found && k.fired(l) && distinct(l) == fewest {
				best, found = slices.Clone(l), true
			}
		})
		if !slices.Equal(loads, best) || e != api.OK {
			t.Error(k.given, loads, e, best)
		}
	}
	if none < 10 || sizes[0] < 10 || sizes[1] < 20 || sizes[2] < 20 || sizes[3] < 20 || sizes[4] < 10 {
		t.Error("too few orders of a kind:", none, sizes)
	}
}

// distinct returns how many numbers a list has, each counted once.
func distinct(l []int) int {
	bits := bitsOf(l)
	return len(numbers(bits))
}

// P3.8, P3.12: Apart against all lists of signs; there are at least as many loads.
func TestApart(t *testing.T) {
	var sizes [api.MaxForkSigns + 1]int
	fewer := 0
	for _, k := range someKnown(5, 1000) {
		all := lists(len(k.l))
		var best []int
		for _, l := range all {
			if len(l) > len(best) && !slices.ContainsFunc(all, func(two []int) bool {
				return len(two) == 2 && bitsOf(two)&^bitsOf(l) == 0 && k.surely[bitsOf(two)]
			}) {
				best = l
			}
		}
		apart, e := fork.Apart(k.r, k.l)
		if !slices.Equal(apart, best) || e != api.OK {
			t.Error(k.given, apart, e, best)
		}
		sizes[len(apart)]++
		loads, e := fork.Loads(k.r, k.l)
		if e == api.OK && distinct(loads) < len(apart) {
			t.Error(k.given, loads, apart)
		}
		if e == api.OK && distinct(loads) > len(apart) {
			fewer++
		}
	}
	if sizes[0] < 50 || sizes[1] < 50 || sizes[2] < 50 || sizes[3] < 50 || sizes[4] < 20 || sizes[5] < 10 || fewer < 20 {
		t.Error("too few lists of a kind:", sizes, fewer)
	}
}

// P3.9, P3.14: Dear against the fewest loads of all signs but one.
func TestDear(t *testing.T) {
	dears, cheap, none := 0, 0, 0
	for _, k := range someKnown(6, 1000) {
		many := len(k.l)
		fewest := k.few(1<<many - 1)
		dear, e := fork.Dear(k.r, k.l)
		if fewest < 0 {
			none++
			if len(dear) != 0 || e != api.ErrNone {
				t.Error(k.given, dear, e)
			}
			continue
		}
		var want []int
		for s := range many {
			without, f := fork.Loads(k.r, slices.Delete(slices.Clone(k.l), s, s+1))
			few := k.few((1<<many - 1) &^ (1 << s))
			if distinct(without) != few || few < fewest-1 || f != api.OK {
				t.Error(k.given, s, without, f, few)
			}
			if few < fewest {
				want = append(want, s)
			}
		}
		if !slices.Equal(dear, want) || e != api.OK {
			t.Error(k.given, dear, e, want)
		}
		dears += len(want)
		cheap += many - len(want)
	}
	if dears < 300 || cheap < 300 || none < 50 {
		t.Error("too few signs of a kind:", dears, cheap, none)
	}
}

// others returns how many numbers of a list are others than those of another one.
func others(l, than []int) int {
	many := 0
	for i := range l {
		if l[i] != than[i] {
			many++
		}
	}
	return many
}

// P3.10, P3.15: Put against all lists of loads with numbers no greater than those that were written down; what Put has put right stays as it is.
func TestPutRight(t *testing.T) {
	r := rand.New(rand.NewSource(7))
	none := 0
	var sizes [api.MaxForkSigns + 1]int
	for _, k := range someKnown(8, 2500) {
		var written []int
		most := r.Intn(api.MaxForkSigns)
		for range k.l {
			written = append(written, []int{most, r.Intn(most + 1)}[r.Intn(2)])
		}
		if len(written) > 0 {
			most = slices.Max(written)
		}
		var best []int
		fewest := -1
		all(len(k.l), most+1, func(l []int) {
			if k.fired(l) && (fewest < 0 || others(l, written) < fewest) {
				best, fewest = slices.Clone(l), others(l, written)
			}
		})
		to, moved, e := fork.Put(k.r, k.l, written)
		if fewest < 0 {
			none++
			if len(to) != 0 || moved != 0 || e != api.ErrNone {
				t.Error(k.given, written, to, moved, e)
			}
			continue
		}
		sizes[fewest]++
		if !slices.Equal(to, best) || moved != fewest || e != api.OK {
			t.Error(k.given, written, to, moved, e, best, fewest)
		}
		if again, moved, e := fork.Put(k.r, k.l, to); !slices.Equal(again, to) || moved != 0 || e != api.OK {
			t.Error(k.given, to, again, moved, e)
		}
	}
	if none < 50 || sizes[0] < 100 || sizes[1] < 100 || sizes[2] < 50 || sizes[3] < 20 || sizes[4] < 5 {
		t.Error("too few lists of a kind:", none, sizes)
	}
}

// wide returns a fork and signs of any size, of which each one surely goes alone.
func wide(r *rand.Rand) given {
	upTo := func(least, most int) int { return least + r.Intn(most-least+1) }
	g := given{r: bars(upTo(1, 3), upTo(1, 200), upTo(0, 20), upTo(1, 2000), upTo(0, 100))}
	for range r.Intn(api.MaxForkSigns + 1) {
		weight, heat := upTo(1, min(500, g.r.Load)), upTo(0, 1000)
		s := sign(upTo(1, g.r.Length), upTo(1, 100), span(upTo(1, weight), weight), span(heat, upTo(heat, 1000)))
		g.l = append(g.l, s)
	}
	return g
}

// greater returns forks that carry more than another one, one limit at a time.
func greater(r *rand.Rand, f api.ForkRules) []api.ForkRules {
	more := func(n, most int) int { return min(most, n+1+r.Intn(most/4+1)) }
	out := slices.Repeat([]api.ForkRules{f}, 4)
	out[0].Load = more(f.Load, api.MaxForkLoad)
	out[1].Length = more(f.Length, api.MaxForkLength)
	out[2].Near = more(f.Near, api.MaxForkHigh)
	out[3].Bars = min(f.Bars+1, api.MaxForkBars)
	return out
}

// P3.12, P3.14: with forks and signs of any size each load surely goes, no loads that are tried are fewer, and with a fork that carries more, or a sign less, there are no more.
func TestNoMoreLoads(t *testing.T) {
	r := rand.New(rand.NewSource(9))
	better := 0
	for range 600 {
		g := wide(r)
		loads, e := fork.Loads(g.r, g.l)
		if len(loads) != len(g.l) || e != api.OK {
			t.Fatal(g, loads, e)
		}
		many := distinct(loads)
		for number := range many {
			var load []int
			for s := range g.l {
				if loads[s] == number {
					load = append(load, s)
				}
			}
			if surely, _, e := fork.Goes(g.r, g.l, load); !surely || len(load) == 0 || e != api.OK {
				t.Error(g, loads, number, e)
			}
		}
		if apart, e := fork.Apart(g.r, g.l); len(apart) > many || e != api.OK {
			t.Error(g, loads, apart, e)
		}
		for _, f := range greater(r, g.r) {
			more, e := fork.Loads(f, g.l)
			if distinct(more) > many || e != api.OK {
				t.Error(g, f, loads, more, e)
			}
			better += many - distinct(more)
		}
		for s := range g.l {
			less, e := fork.Loads(g.r, slices.Delete(slices.Clone(g.l), s, s+1))
			if d := many - distinct(less); d < 0 || d > 1 || e != api.OK {
				t.Error(g, s, loads, less, e)
			}
		}
	}
	if better < 50 {
		t.Error("too few forks that carry more:", better)
	}
}

// P3.15: loads in which all signs are fired stay as they are; no others that are tried move fewer.
func TestNoFewerMoves(t *testing.T) {
	r := rand.New(rand.NewSource(10))
	right := 0
	for range 600 {
		g := wide(r)
		written := make([]int, len(g.l))
		for i := range written {
			written[i] = r.Intn(api.MaxForkSigns)
		}
		to, moved, e := fork.Put(g.r, g.l, written)
		if e != api.OK {
			continue
		}
		again, no, e := fork.Put(g.r, g.l, to)
		if moved != others(to, written) || !slices.Equal(again, to) || no != 0 || e != api.OK {
			t.Error(g, written, to, moved, again, no, e)
		}
		if moved == 0 {
			right++
		}
		loads, _ := fork.Loads(g.r, g.l)
		if len(g.l) > 0 && distinct(loads) <= slices.Max(written)+1 && others(loads, written) < moved {
			t.Error(g, written, to, moved, loads)
		}
	}
	if right < 100 {
		t.Error("too few loads that are right:", right)
	}
}
