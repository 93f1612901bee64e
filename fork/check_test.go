package fork_test

import (
	"math"
	"slices"
	"testing"

	"smalto/api"
	"smalto/fork"
)

// same returns one error for all functions.
func same(e api.Errno) (out [functions]api.Errno) {
	for i := range out {
		out[i] = e
	}
	return out
}

// rules changes the fork, first changes the sign 0, and more repeats the last sign.
func rules(to func(r *api.ForkRules)) change { return func(g *given) { to(&g.r) } }

func first(to func(s *api.ForkSign)) change { return func(g *given) { to(&g.l[0]) } }

func more(many int) change {
	return func(g *given) { g.l = slices.Concat(g.l, slices.Repeat(g.l[len(g.l)-1:], many)) }
}

// P3.1, P1: all functions have the errors of the fork and its signs first, whatever else is wrong, and nothing else with them.
func TestBadForks(t *testing.T) {
	flat := rules(func(r *api.ForkRules) { r.Bars = 0 })
	wrong := first(func(s *api.ForkSign) { s.Long = 0 })
	last := func(g *given) { g.l[len(g.l)-1].Long = 0 }
	weighs := func(low, high int) change { return first(func(s *api.ForkSign) { s.Weight = span(low, high) }) }
	heats := func(low, high int) change { return first(func(s *api.ForkSign) { s.Heat = span(low, high) }) }
	for name, x := range map[string]struct {
		g given
		e api.Errno
	}{
		"nothing": {given{}, api.ErrForm}, "no bars": {example(flat), api.ErrForm},
		"bars 4":    {example(rules(func(r *api.ForkRules) { r.Bars = 4 })), api.ErrForm},
		"bars -1":   {example(rules(func(r *api.ForkRules) { r.Bars = -1 })), api.ErrForm},
		"bars many": {example(rules(func(r *api.ForkRules) { r.Bars = math.MaxInt })), api.ErrForm},
		"length 0":  {example(rules(func(r *api.ForkRules) { r.Length = 0 })), api.ErrForm}, "length 201": {example(rules(func(r *api.ForkRules) { r.Length = 201 })), api.ErrForm},
		"gap -1": {example(rules(func(r *api.ForkRules) { r.Gap = -1 })), api.ErrForm}, "gap 21": {example(rules(func(r *api.ForkRules) { r.Gap = 21 })), api.ErrForm},
		"gap small": {example(rules(func(r *api.ForkRules) { r.Gap = math.MinInt })), api.ErrForm},
		"load 0":    {example(carries(0)), api.ErrForm}, "load 2001": {example(carries(2001)), api.ErrForm},
		"near -1": {example(rules(func(r *api.ForkRules) { r.Near = -1 })), api.ErrForm}, "near 101": {example(rules(func(r *api.ForkRules) { r.Near = 101 })), api.ErrForm},
		"seven signs": {example(more(2)), api.ErrLong}, "very many signs": {example(more(1000)), api.ErrLong},
		"form before seven": {example(more(2), flat), api.ErrForm}, "form before a sign": {example(wrong, flat), api.ErrForm},
		"seven before a sign": {example(more(2), wrong), api.ErrLong},
		"long 0":              {example(wrong), api.ErrArg}, "the last one's": {example(last), api.ErrArg}, "the sixth one's": {example(more(1), last), api.ErrArg},
		"long 201":   {example(first(func(s *api.ForkSign) { s.Long = 201 })), api.ErrArg},
		"long great": {example(first(func(s *api.ForkSign) { s.Long = math.MaxInt })), api.ErrArg},
		"high 0":     {example(first(func(s *api.ForkSign) { s.High = 0 })), api.ErrArg}, "high 101": {example(first(func(s *api.ForkSign) { s.High = 101 })), api.ErrArg},
		"weight 0": {example(weighs(0, 5)), api.ErrArg}, "weight 501": {example(weighs(5, 501)), api.ErrArg}, "weight turned": {example(weighs(6, 5)), api.ErrArg},
		"weight great": {example(weighs(math.MinInt, math.MaxInt)), api.ErrArg},
		"heat -1":      {example(heats(-1, 5)), api.ErrArg}, "heat 1001": {example(heats(5, 1001)), api.ErrArg}, "heat turned": {example(heats(6, 5)), api.ErrArg},
		"heat great": {example(heats(math.MinInt, math.MaxInt)), api.ErrArg},
	} {
		errs, results := arguments{x.g, list(1, 1), list(9)}.all()
		if errs != same(x.e) || !zeroWith(errs, results) {
			t.Error(name, errs, results)
		}
	}
}

// P3.1, R7: each limit can be reached. A sign may be longer than the fork, and heavier than it carries.
func TestGoodForks(t *testing.T) {
	least := sign(1, 1, span(1, 1), span(0, 0))
	most := sign(200, 100, span(500, 500), span(1000, 1000))
	wide := sign(200, 1, span(1, 500), span(0, 1000))
	for i, g := range []given{
		example(), example(more(1)), {r: bars(1, 1, 0, 1, 0)}, {r: bars(3, 200, 20, 2000, 100)},
		{bars(1, 1, 0, 1, 0), []api.ForkSign{least, most, wide}}, {bars(3, 200, 20, 2000, 100), []api.ForkSign{least, most, wide, least, most, wide}},
	} {
		if e := fork.Check(g.r, g.l); e != api.OK {
			t.Error(i, e)
		}
		errs, _ := arguments{given: g, loads: make([]int, len(g.l))}.all()
		for of, e := range errs {
			if e != api.OK && e != api.ErrNone && e != api.ErrTwice {
				t.Error(i, of, e)
			}
		}
	}
}

// P3.1: a load that is none is an error, before those of the functions themselves, and of no function without a load.
func TestBadLoads(t *testing.T) {
	single := example(rules(func(r *api.ForkRules) { r.Length = 1 }))
	for _, load := range [][]int{{-1}, {5}, {0, 5}, {-1, 0}, {1, 0}, {0, 0}, {2, 2, 3}, {0, 2, 1}, {4, 5}, {math.MaxInt}, {math.MinInt}, {0, 1, 2, 3, 4, 5}, {0, 1, 2, 3, 4, 4}, make([]int, 1000)} {
		for i, g := range []given{example(), single, {roomy(), example().l}} {
			errs, results := arguments{g, load, list(0, 0, 1, 0, 1)}.all()
			good, _ := arguments{g, nil, list(0, 0, 1, 0, 1)}.all()
			want := good
			for of := ofGoes; of <= ofBar; of++ {
				want[of] = api.ErrForm
			}
			if errs != want || !zeroWith(errs, results) {
				t.Error(load, i, errs, results)
			}
		}
	}
	if errs, results := (arguments{given{r: roomy()}, list(0), nil}).all(); errs[ofGoes] != api.ErrForm || errs[ofBar] != api.ErrForm || !zeroWith(errs, results) {
		t.Error(errs, results)
	}
}

// P3.10: numbers that are no loads of all signs are an error, before that there is no such list.
func TestBadNumbers(t *testing.T) {
	single := example(rules(func(r *api.ForkRules) { r.Length = 1 }))
	for _, loads := range [][]int{nil, {0}, {0, 0, 1, 0}, {0, 0, 1, 0, 1, 0}, {0, 0, 1, 0, -1}, {-1, 0, 1, 0, 1}, {0, 0, 6, 0, 1}, {0, 0, 1, 0, 6}, {0, 0, math.MaxInt, 0, 1}, {0, 0, math.MinInt, 0, 1}, make([]int, 1000)} {
		for i, g := range []given{example(), single} {
			if to, moved, e := fork.Put(g.r, g.l, loads); len(to) != 0 || moved != 0 || e != api.ErrForm {
				t.Error(loads, i, to, moved, e)
			}
		}
	}
	if to, moved, e := fork.Put(roomy(), nil, list(0)); len(to) != 0 || moved != 0 || e != api.ErrForm {
		t.Error(to, moved, e)
	}
}
