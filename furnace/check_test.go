package furnace_test

import (
	"math"
	"slices"
	"testing"

	"smalto/api"
	"smalto/furnace"
)

// same returns one error for all functions.
func same(e api.Errno) (out [functions]api.Errno) {
	for i := range out {
		out[i] = e
	}
	return out
}

// worst are arguments for each of which a function has an error of its own.
func worst(o api.FurnaceOven) arguments {
	return arguments{o, -1, 9, ware(5, 5), make([]api.FurnaceWare, 6), make([]api.FurnaceSet, 6)}
}

// P2.1, P1: all functions have the errors of the furnace first, whatever else is wrong, and nothing else with them.
func TestBadOvens(t *testing.T) {
	place := func(h api.Span) change {
		return func(o *api.FurnaceOven) { o.Heats = append(slices.Clone(o.Heats), h) }
	}
	of := func(heats ...api.Span) change { return func(o *api.FurnaceOven) { o.Heats = heats } }
	pairs := func(n int) change {
		return func(o *api.FurnaceOven) { o.Pairs = slices.Repeat([]api.FurnacePair{pair(0, 1, 30)}, n) }
	}
	cones := func(n int) change {
		return func(o *api.FurnaceOven) { o.Cones = slices.Repeat([]api.FurnaceCone{cone(0, 750, true)}, n) }
	}
	signs := func(n int) change {
		return func(o *api.FurnaceOven) {
			o.Signs = slices.Repeat([]api.FurnaceSign{sign(0, 1, 990, api.FurnaceGood)}, n)
		}
	}
	good := api.FurnaceGood
	for name, x := range map[string]struct {
		o api.FurnaceOven
		e api.Errno
	}{
		"nothing": {api.FurnaceOven{}, api.ErrForm}, "no places": {oven(of()), api.ErrForm},
		"six places": {oven(place(span(1, 2)), place(span(1, 2)), place(span(1, 2))), api.ErrForm},
		"heat -1":    {oven(place(span(-1, 5))), api.ErrForm}, "heat 1001": {oven(place(span(5, 1001))), api.ErrForm},
		"heat turned": {oven(place(span(6, 5))), api.ErrForm}, "first turned": {oven(of(span(6, 5), span(1, 1))), api.ErrForm},
		"heat great": {oven(place(span(math.MinInt, math.MaxInt))), api.ErrForm},
		"nine pairs": {oven(pairs(9)), api.ErrLong}, "seven cones": {oven(cones(7)), api.ErrLong}, "five signs": {oven(signs(5)), api.ErrLong},
		"form before nine pairs": {oven(pairs(9), of()), api.ErrForm}, "form before seven cones": {oven(cones(7), place(span(2, 1))), api.ErrForm},
		"form before a pair": {oven(withPair(0, 0, 1), place(span(2, 1))), api.ErrForm},
		"long before a pair": {oven(withPair(0, 0, 1), signs(5)), api.ErrLong}, "long before a cone": {oven(withCone(3, 1, true), pairs(9)), api.ErrLong},
		"long before a sign": {oven(withSign(3, 1, 2, good), cones(7)), api.ErrLong},
		"itself":             {oven(withPair(1, 1, 5)), api.ErrArg}, "a 3": {oven(withPair(3, 0, 5)), api.ErrArg}, "b 3": {oven(withPair(0, 3, 5)), api.ErrArg},
		"a -1": {oven(withPair(-1, 0, 5)), api.ErrArg}, "b -1": {oven(withPair(0, -1, 5)), api.ErrArg},
		"most -1": {oven(withPair(0, 1, -1)), api.ErrArg}, "most 1001": {oven(withPair(0, 1, 1001)), api.ErrArg}, "most great": {oven(withPair(0, 1, math.MaxInt)), api.ErrArg},
		"cone at 3": {oven(withCone(3, 5, true)), api.ErrArg}, "cone at -1": {oven(withCone(-1, 5, true)), api.ErrArg},
		"bends 0": {oven(withCone(0, 0, true)), api.ErrArg}, "bends 1001": {oven(withCone(0, 1001, false)), api.ErrArg}, "bends small": {oven(withCone(0, math.MinInt, false)), api.ErrArg},
		"sign at 3": {oven(withSign(3, 5, 6, good)), api.ErrArg}, "sign at -1": {oven(withSign(-1, 5, 6, good)), api.ErrArg},
		"fires -1": {oven(withSign(0, -1, 6, good)), api.ErrArg}, "runs 1001": {oven(withSign(0, 5, 1001, good)), api.ErrArg},
		"runs as it fires": {oven(withSign(0, 5, 5, good)), api.ErrArg}, "runs before": {oven(withSign(0, 6, 5, good)), api.ErrArg},
		"how 0": {oven(withSign(0, 5, 6, 0)), api.ErrArg}, "how 4": {oven(withSign(0, 5, 6, 4)), api.ErrArg}, "how -1": {oven(withSign(0, 5, 6, -1)), api.ErrArg},
		"no truth, and a cone": {oven(dead, withCone(0, 0, true)), api.ErrArg}, "no truth, and a pair": {oven(lied, withPair(2, 2, 0)), api.ErrArg},
		"no truth, and a sign": {oven(lied, withSign(2, 2, 2, good)), api.ErrArg}, "no truth, and nine pairs": {oven(dead, pairs(9)), api.ErrLong},
	} {
		errs, results := worst(x.o).all()
		if errs != same(x.e) || !zeroWith(errs, results) {
			t.Error(name, errs, results)
		}
	}
}

// P2.1, R7: each limit can be reached, pairs and notes can stand in any order, and more than once.
func TestGoodOvens(t *testing.T) {
	full := bare(spans(span(0, 1000), span(1000, 1000), span(0, 1000), span(500, 500), span(0, 1000)))
	for _, p := range []api.FurnacePair{pair(4, 0, 1000), pair(0, 4, 1000), pair(3, 1, 500), pair(2, 0, 1000), pair(2, 1, 1000), pair(1, 2, 1000), pair(4, 0, 1000), pair(2, 2-1, 1000)} {
		withPair(p.A, p.B, p.Most)(&full)
	}
	for _, c := range []api.FurnaceCone{cone(4, 1000, false), cone(1, 1000, true), cone(0, 1, true), cone(0, 1, true), cone(3, 500, true), cone(3, 501, false)} {
		withCone(c.Place, c.Bends, c.Bent)(&full)
	}
	for _, s := range []api.FurnaceSign{sign(4, 999, 1000, api.FurnaceDull), sign(3, 0, 500, api.FurnaceRan), sign(3, 500, 501, api.FurnaceGood), sign(0, 0, 1000, api.FurnaceGood)} {
		withSign(s.Place, s.Ware.Fires, s.Ware.Runs, s.How)(&full)
	}
	for i, o := range []api.FurnaceOven{oven(), full, bare(spans(span(0, 0))), bare(spans(span(1000, 1000))), bare(spans(span(0, 1000))), bare(spans(span(0, 5), span(5, 9)), withPair(1, 0, 0))} {
		if e := furnace.Check(o); e != api.OK {
			t.Error(i, e)
		}
		if heats, e := furnace.Heats(o); len(heats) != len(o.Heats) || e != api.OK {
			t.Error(i, heats, e)
		}
	}
	heats, e := furnace.Heats(full)
	if want := spans(span(1, 999), span(1000, 1000), span(0, 1000), span(500, 500), span(0, 998)); !slices.Equal(heats, want) || e != api.OK {
		t.Error(heats, e)
	}
}

// P2.1: without a truth all functions but Check, whose errors are those of the form alone, and Wrong have an error, before all of their own.
func TestNoTruth(t *testing.T) {
	for name, x := range map[string]struct {
		o     api.FurnaceOven
		wrong []int
		e     api.Errno
	}{
		"no notes":             {bare(spans(span(0, 4), span(6, 9)), withPair(1, 0, 1)), nil, api.ErrState},
		"pairs alone":          {bare(spans(span(0, 4), span(0, 9), span(9, 9)), withPair(1, 0, 2), withPair(1, 2, 2)), nil, api.ErrState},
		"dead":                 {oven(dead), nil, api.ErrState},
		"lied":                 {oven(lied), list(0), api.OK},
		"a cone":               {oven(withCone(0, 820, true)), list(2), api.OK},
		"a sign":               {bare(spans(span(5, 9)), withSign(0, 4, 5, api.FurnaceGood)), list(0), api.OK},
		"dull before all heat": {bare(spans(span(0, 9)), withSign(0, 0, 5, api.FurnaceDull)), list(0), api.OK},
		"too hot":              {bare(spans(span(0, 999)), withCone(0, 1000, true)), list(0), api.OK},
		"over a place between": {bare(spans(span(0, 9), span(0, 9), span(0, 9)), withPair(0, 1, 2), withPair(1, 2, 2), withCone(0, 7, true), withCone(2, 3, false)), list(0), api.OK},
	} {
		errs, results := worst(x.o).all()
		want := same(api.ErrState)
		want[ofCheck], want[ofWrong] = api.OK, x.e
		if errs != want || !zeroWith(errs, results) {
			t.Error(name, errs, results)
		}
		if wrong, e := furnace.Wrong(x.o); !slices.Equal(wrong, x.wrong) || e != x.e {
			t.Error(name, wrong, e)
		}
	}
}

// P2.3: both must be places.
func TestNotPlaces(t *testing.T) {
	for _, x := range [][]int{{-1, 0}, {0, -1}, {3, 0}, {0, 3}, {3, 3}, {-1, -1}, {5, 5}, {0, 5}, {math.MaxInt, 0}, {0, math.MinInt}} {
		if apart, e := furnace.Apart(oven(), x[0], x[1]); apart != span(0, 0) || e != api.ErrNone {
			t.Error(x, apart, e)
		}
	}
}

// badWares are those that are not valid.
func badWares() []api.FurnaceWare {
	return wares(ware(-1, 5), ware(5, 5), ware(0, 0), ware(6, 5), ware(5, 1001), ware(1000, 1000), ware(1000, 1001), ware(math.MinInt, 5), ware(5, math.MaxInt), ware(math.MinInt, math.MaxInt))
}

// P2.4, P2.6, P2.7: a ware that is none is an error, wherever it stands, but too many wares are one before.
func TestBadWares(t *testing.T) {
	ok := ware(720, 810)
	for _, w := range badWares() {
		if surely, possibly, e := furnace.Places(oven(), w); len(surely)+len(possibly) != 0 || e != api.ErrArg {
			t.Error(w, surely, possibly, e)
		}
		for i, l := range [][]api.FurnaceWare{wares(w), wares(w, ok), wares(ok, ok, ok, ok, w)} {
			var put []api.FurnaceSet
			for _, x := range l {
				put = append(put, api.FurnaceSet{Place: 2, Ware: x})
			}
			filled, e := furnace.Fill(oven(), l)
			turn, f := furnace.Turn(oven(), put)
			if len(filled) != 0 || e != api.ErrArg || turn != span(0, 0) || f != api.ErrArg {
				t.Error(w, i, filled, e, turn, f)
			}
		}
		filled, e := furnace.Fill(oven(), wares(w, ok, ok, ok, ok, ok))
		turn, f := furnace.Turn(oven(), slices.Repeat(sets(api.FurnaceSet{Place: 0, Ware: w}), 6))
		if len(filled) != 0 || e != api.ErrLong || turn != span(0, 0) || f != api.ErrLong {
			t.Error(w, filled, e, turn, f)
		}
	}
}

// P2.6, P2.7: five wares are not too many, six are.
func TestManyWares(t *testing.T) {
	ok := ware(0, 1000)
	filled, e := furnace.Fill(oven(), slices.Repeat(wares(ok), 5))
	turn, f := furnace.Turn(oven(), slices.Repeat(sets(set(0, 0, 1000)), 5))
	if !slices.Equal(filled, list(-1, -1, 0, 1, 2)) || e != api.OK || turn != span(-300, 199) || f != api.OK {
		t.Error(filled, e, turn, f)
	}
	filled, e = furnace.Fill(oven(), slices.Repeat(wares(ok), 6))
	turn, f = furnace.Turn(oven(), slices.Repeat(sets(set(0, 0, 1000)), 6))
	if len(filled) != 0 || e != api.ErrLong || turn != span(0, 0) || f != api.ErrLong {
		t.Error(filled, e, turn, f)
	}
}

// P2.7: a set at a place that there is not is an error, before that there are no such degrees.
func TestBadSets(t *testing.T) {
	for _, place := range list(-1, 3, 4, 5, math.MaxInt, math.MinInt) {
		for i, l := range [][]api.FurnaceSet{sets(set(place, 720, 810)), sets(set(0, 1, 2), set(place, 720, 810))} {
			if turn, e := furnace.Turn(oven(), l); turn != span(0, 0) || e != api.ErrArg {
				t.Error(place, i, turn, e)
			}
		}
	}
}
