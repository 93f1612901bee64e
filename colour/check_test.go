package colour_test

import (
	"math"
	"testing"

	"smalto/api"
	"smalto/colour"
)

// all calls every function with one set, and returns each one's error and whether all else is zero.
func all(s api.ColourSet, plan [][]int, colours []int, trials [][][]int) (errs [9]api.Errno, zero bool) {
	errs[0] = colour.Check(s)
	surely, possibly, e := colour.Is(s, plan)
	each, firings, f := colour.Firings(s, plan)
	heats, g := colour.Heats(s, plan)
	best, h := colour.Plan(s, colours)
	bar, i := colour.Bar(s, colours)
	with, j := colour.With(s, colours)
	hot, stretches, k := colour.Told(s, trials)
	wrong, l := colour.Wrong(s, trials)
	copy(errs[1:], []api.Errno{e, f, g, h, i, j, k, l})
	zero = !surely && !possibly && firings == 0 &&
		len(each)+len(heats)+len(best)+len(bar)+len(with)+len(hot)+len(stretches)+len(wrong) == 0
	return errs, zero
}

// badSets are sets that are not valid, with the error that is named first.
func badSets() map[string]struct {
	s api.ColourSet
	e api.Errno
} {
	type row = struct {
		s api.ColourSet
		e api.Errno
	}
	with := func(e api.Errno, changes ...func(s *api.ColourSet)) row { return row{works(changes...), e} }
	of := func(p api.ColourPaint) func(s *api.ColourSet) { return func(s *api.ColourSet) { s.Paints[3] = p } }
	pair := func(a, b int) func(s *api.ColourSet) {
		return func(s *api.ColourSet) { s.Eats = append(s.Eats, api.ColourPair{Eater: a, Eaten: b}) }
	}
	near := func(n int) func(s *api.ColourSet) { return func(s *api.ColourSet) { s.Near = n } }
	give := func(n int) func(s *api.ColourSet) { return func(s *api.ColourSet) { s.Give = n } }
	none := func(s *api.ColourSet) { s.Paints = nil }
	six := func(s *api.ColourSet) { s.Paints = append(s.Paints, s.Paints[:2]...) }
	nine := func(s *api.ColourSet) { s.Eats = make([]api.ColourPair, api.MaxColourEats+1) }
	ok := span(5, 5)
	return map[string]row{
		"no paints": with(api.ErrForm, none), "six paints": with(api.ErrForm, six),
		"near -1": with(api.ErrForm, near(-1)), "near 101": with(api.ErrForm, near(101)), "near great": with(api.ErrForm, near(math.MaxInt)),
		"give -1": with(api.ErrForm, give(-1)), "give 101": with(api.ErrForm, give(101)), "give small": with(api.ErrForm, give(math.MinInt)),
		"nine pairs": with(api.ErrLong, nine), "form before long": with(api.ErrForm, nine, none), "form before a paint": with(api.ErrForm, near(-1), of(api.ColourPaint{})),
		"long before a paint": with(api.ErrLong, nine, of(api.ColourPaint{})), "form before a pair": with(api.ErrForm, give(101), pair(1, 1)),
		"heat -1": with(api.ErrArg, of(paint(span(-1, 5), ok, 1, 1))), "heat 1001": with(api.ErrArg, of(paint(span(5, 1001), ok, 1, 1))),
		"heat turned": with(api.ErrArg, of(paint(span(6, 5), ok, 1, 1))), "heat great": with(api.ErrArg, of(paint(span(math.MinInt, math.MaxInt), ok, 1, 1))),
		"stretch -1": with(api.ErrArg, of(paint(ok, span(-1, 5), 1, 1))), "stretch 201": with(api.ErrArg, of(paint(ok, span(5, 201), 1, 1))),
		"stretch turned": with(api.ErrArg, of(paint(ok, span(6, 5), 1, 1))),
		"no coats":       with(api.ErrArg, of(paint(ok, ok, 0, 1))), "four coats": with(api.ErrArg, of(paint(ok, ok, 4, 1))),
		"no firings": with(api.ErrArg, of(paint(ok, ok, 1, 0))), "13 firings": with(api.ErrArg, of(paint(ok, ok, 1, 13))),
		"itself": with(api.ErrArg, pair(1, 1)), "eater 4": with(api.ErrArg, pair(4, 0)), "eaten 4": with(api.ErrArg, pair(0, 4)),
		"eater -1": with(api.ErrArg, pair(-1, 0)), "eaten -1": with(api.ErrArg, pair(0, -1)),
	}
}

// P1.1, P1: all functions have the errors of the set first, whatever else is wrong, and nothing else with them.
func TestBadSets(t *testing.T) {
	for name, x := range badSets() {
		for _, plan := range plans(nil, rounds(list(0)), rounds(list())) {
			for _, trials := range [][][][]int{plans(plan), make([][][]int, 4)} {
				errs, zero := all(x.s, plan, list(9), trials)
				for i, e := range errs {
					if e != x.e || !zero {
						t.Error(name, i, e, zero)
					}
				}
			}
		}
	}
}

// P1.1, R7: each limit can be reached.
func TestGoodSets(t *testing.T) {
	ends := paint(span(0, api.MaxColourHeat), span(0, api.MaxColourStretch), api.MaxColourCoats, api.MaxColourFirings)
	least := paint(span(0, 0), span(0, 0), 1, 1)
	five := api.ColourSet{Paints: []api.ColourPaint{ends, least, paint(span(1000, 1000), span(200, 200), 1, 1), ends, least}, Near: 100, Give: 100}
	for range api.MaxColourEats {
		five.Eats = append(five.Eats, api.ColourPair{Eater: 4, Eaten: 0})
	}
	for i, s := range []api.ColourSet{works(), works(free), five, {Paints: []api.ColourPaint{least}}} {
		if e := colour.Check(s); e != api.OK {
			t.Error(i, e)
		}
	}
}

// P1.1, P1.8, P1.9: a plan that is none is an error of the form, wherever it stands, but too many plans are one before.
func TestBadPlans(t *testing.T) {
	long := make([]int, 1000)
	for i, plan := range plans(
		rounds(nil), rounds(list()), rounds(list(0), list()), rounds(list(), list(0)), rounds(list(1, 0)), rounds(list(0, 0)),
		rounds(list(0), list(0)), rounds(list(0, 2), list(1), list(2)), rounds(list(4)), rounds(list(-1)), rounds(list(0, 1, 2, 3, 4)),
		rounds(list(math.MaxInt)), rounds(list(math.MinInt, 0)), rounds(long), rounds(list(0), list(1), list(2), list(3), list(0)),
	) {
		for _, trials := range [][][][]int{plans(plan), plans(nil, plan), plans(nil, nil, plan), plans(plan, rounds(list(0)))} {
			errs, zero := all(works(), plan, list(1, 0), trials)
			if !zero || errs != [9]api.Errno{0, api.ErrForm, api.ErrForm, api.ErrForm, api.ErrForm, api.ErrForm, api.ErrForm, api.ErrForm, api.ErrForm} {
				t.Error(i, errs, zero)
			}
		}
		four := plans(plan, plan, plan, plan)
		_, _, e := colour.Told(works(), four)
		if _, f := colour.Wrong(works(), four); e != api.ErrLong || f != api.ErrLong {
			t.Error(i, e, f)
		}
	}
}

// P1.1: a list of colours ascends, and has those of the set alone.
func TestBadColours(t *testing.T) {
	for i, l := range [][]int{list(1, 0), list(0, 0), list(0, 1, 1), list(4), list(-1), list(0, 4), list(-1, 0), list(math.MaxInt), list(math.MinInt), make([]int, 1000)} {
		plan, e := colour.Plan(works(), l)
		bar, f := colour.Bar(works(), l)
		with, g := colour.With(works(), l)
		if e != api.ErrForm || f != api.ErrForm || g != api.ErrForm || len(plan)+len(bar)+len(with) != 0 {
			t.Error(i, plan, e, bar, f, with, g)
		}
	}
}

// P1.8, P1.9: four plans are too many, three are not.
func TestManyPlans(t *testing.T) {
	_, _, e := colour.Told(works(), make([][][]int, 3))
	_, f := colour.Wrong(works(), make([][][]int, 3))
	heats, stretches, g := colour.Told(works(), make([][][]int, 4))
	wrong, h := colour.Wrong(works(), make([][][]int, 4))
	if e != api.OK || f != api.ErrTwice || g != api.ErrLong || h != api.ErrLong || len(heats)+len(stretches)+len(wrong) != 0 {
		t.Error(e, f, g, h, heats, stretches, wrong)
	}
}
