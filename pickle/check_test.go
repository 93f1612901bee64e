package pickle_test

import (
	"math"
	"slices"
	"testing"

	"smalto/api"
	"smalto/pickle"
)

// withBath are the functions with a bath, withSteps those with steps, or with what was seen.
var (
	withBath  = list(ofCheck, ofStrengths, ofOut, ofHours, ofOrder, ofFillings, ofWas, ofWrong)
	withSteps = list(ofOut, ofHours, ofWas, ofWrong)
)

// only returns one error for some functions, and none for all others.
func only(e api.Errno, of ...int) (out [functions]api.Errno) {
	for _, i := range of {
		out[i] = e
	}
	return out
}

// wrongSpans returns spans that are not valid from low to high.
func wrongSpans(low, high int) []api.Span {
	return spans(
		span(low-1, high), span(low, high+1), span(high, low), span(low+1, low), span(high+1, high+1), span(low-1, low-1), span(high+1, low),
		span(math.MinInt, low), span(low, math.MaxInt), span(math.MinInt, math.MaxInt), span(math.MaxInt, math.MinInt), span(math.MaxInt, math.MaxInt), span(math.MinInt, math.MinInt),
	)
}

// wrongNumbers returns numbers that are not from low to high.
func wrongNumbers(low, high int) []int {
	return list(low-1, high+1, -high-1, math.MinInt, math.MaxInt)
}

// lost returns arguments with a bath, of which all else that goes with it is wrong.
func lost(b api.PickleBath) arguments {
	a := fine()
	a.b, a.order, a.steps, a.plate, a.seen, a.lied = b, list(-1), steps(step(0, 0)), -1, sights(seen(0, 1, 0)), sights(seen(9, 1, good))
	return a
}

// P6.1, P1: all functions with a bath have its errors first, whatever else is wrong, and nothing else with them.
func TestBadBaths(t *testing.T) {
	type bad struct {
		b api.PickleBath
		e api.Errno
	}
	var all []bad
	for _, s := range wrongSpans(1, api.MaxPickleStrength) {
		for _, l := range [][]api.PicklePlate{nil, example().Plates, make([]api.PicklePlate, 6), {plate(2, 1, 0, 0)}} {
			all = append(all, bad{api.PickleBath{Strength: s, Plates: l}, api.ErrForm})
		}
	}
	for _, l := range [][]api.PicklePlate{make([]api.PicklePlate, 6), make([]api.PicklePlate, 1000), slices.Repeat([]api.PicklePlate{plate(2, 1, -1, -1)}, 6)} {
		all = append(all, bad{bath(1, 1, l...), api.ErrLong})
	}
	var wrong []api.PicklePlate
	for _, s := range wrongSpans(0, api.MaxPickleRust) {
		wrong = append(wrong, api.PicklePlate{Rust: s})
	}
	for _, n := range wrongNumbers(0, api.MaxPickleTakes) {
		wrong = append(wrong, plate(0, 0, n, 0))
	}
	for _, n := range wrongNumbers(0, api.MaxPickleThin) {
		wrong = append(wrong, plate(0, 0, 0, n))
	}
	for _, p := range wrong {
		three := example().Plates
		all = append(all, bad{bath(10, 12, p), api.ErrArg}, bad{bath(10, 12, append(three, p)...), api.ErrArg}, bad{bath(10, 12, append([]api.PicklePlate{p}, three...)...), api.ErrArg})
	}
	for _, x := range all {
		a := fine()
		a.b = x.b
		for _, a := range []arguments{a, lost(x.b)} {
			if errs, results := a.all(); errs != only(x.e, withBath...) || !zeroWith(errs, results) {
				t.Error(x, errs, results)
			}
		}
	}
}

// P6.1, R7: each limit can be reached.
func TestGoodBaths(t *testing.T) {
	most, least := plate(0, 600, 10, 300), plate(0, 0, 0, 0)
	for i, b := range []api.PickleBath{
		example(), bath(1, 40), bath(1, 1), bath(40, 40), bath(1, 1, least), bath(40, 40, plate(600, 600, 10, 300)),
		bath(1, 40, most, least, most, least, most), bath(5, 6, least, least, least, least, least),
	} {
		if e := pickle.Check(b); e != api.OK {
			t.Error(i, e)
		}
		if l, e := pickle.Strengths(b, nil); !slices.Equal(l, spans(b.Strength)) || e != api.OK {
			t.Error(i, l, e)
		}
	}
}

// The arguments of other tests are right but for what the tests change.
func TestFine(t *testing.T) {
	errs, results := fine().all()
	if errs != only(api.OK) || slices.ContainsFunc(results, isZero) {
		t.Error(errs, results)
	}
}

// notPlates returns lists that are no list of the example's plates, none twice.
func notPlates() [][]int {
	return [][]int{
		{-1}, {3}, {0, 3}, {-1, 0}, {0, 0}, {1, 0, 1}, {0, 1, 2, 2}, {0, 1, 2, 3}, {0, 1, 1}, {math.MaxInt}, {math.MinInt},
		{0, math.MaxInt}, {math.MinInt, 0}, make([]int, 1000), slices.Repeat(list(0, 1, 2), 1000),
	}
}

// P6.2: an order that is none is an error of Strengths alone.
func TestBadOrders(t *testing.T) {
	for _, order := range notPlates() {
		a := fine()
		a.order = order
		if errs, results := a.all(); errs != only(api.ErrForm, ofStrengths) || !zeroWith(errs, results) {
			t.Error(order, errs, results)
		}
	}
	if l, e := pickle.Strengths(bath(1, 1), list(0)); len(l) != 0 || e != api.ErrForm {
		t.Error(l, e)
	}
}

// badSteps returns steps that are not valid ones of the example.
func badSteps() [][]api.PickleStep {
	var out [][]api.PickleStep
	for _, l := range notPlates() {
		var these []api.PickleStep
		for _, n := range l {
			these = append(these, step(n, 1))
		}
		out = append(out, these)
	}
	for _, h := range append(wrongNumbers(1, api.MaxPickleHours), 0, 25) {
		out = append(out, steps(step(0, h)), steps(step(0, h), step(1, 3)), steps(step(0, 1), step(1, h)))
	}
	return out
}

// P6.1, P6.4: steps that are not valid are the next error, before that of a plate that there is not.
func TestBadSteps(t *testing.T) {
	for _, l := range badSteps() {
		var as []api.PickleSeen
		for _, s := range l {
			as = append(as, api.PickleSeen{Step: s, How: good})
		}
		for _, plate := range list(2, 0, -1, 3) {
			a := fine()
			a.steps, a.plate, a.seen, a.lied = l, plate, as, as
			if errs, results := a.all(); errs != only(api.ErrForm, withSteps...) || !zeroWith(errs, results) {
				t.Error(l, plate, errs, results)
			}
		}
	}
	a := arguments{b: bath(1, 1), steps: steps(step(0, 1)), seen: sights(seen(0, 1, good)), lied: sights(seen(0, 1, good))}
	errs, results := a.all()
	for _, of := range withSteps {
		if errs[of] != api.ErrForm || !zeroWith(errs, results) {
			t.Error(of, errs, results)
		}
	}
}

// P6.1: a way in which no plate comes out is an error of what was seen.
func TestBadWays(t *testing.T) {
	for _, n := range append(wrongNumbers(1, 3), 0, 4) {
		how := api.PickleHow(n)
		for _, l := range [][]api.PickleSeen{{seen(0, 4, how)}, {seen(0, 4, dirty), seen(1, 7, how)}, {seen(0, 24, how), seen(2, 3, good)}} {
			a := fine()
			a.seen, a.lied = l, l
			if errs, results := a.all(); errs != only(api.ErrForm, ofWas, ofWrong) || !zeroWith(errs, results) {
				t.Error(l, errs, results)
			}
		}
	}
}

// P6.1, R7: steps of the least and of the most hours, and all ways, are valid.
func TestGoodSteps(t *testing.T) {
	for i, l := range [][]api.PickleStep{nil, {step(0, 1)}, {step(2, 24)}, {step(2, 1), step(0, 24), step(1, 12)}} {
		if out, e := pickle.Out(example(), l); len(out) != len(l) || e != api.OK {
			t.Error(i, out, e)
		}
	}
	for how := dirty; how <= eaten; how++ {
		if wrong, e := pickle.Wrong(bath(10, 12, plate(11, 11, 0, 0)), sights(seen(0, 1, how))); wrong != nil || e != api.ErrTwice {
			t.Error(how, wrong, e)
		}
	}
}

// P6.4: that there is no such plate, or that it was pickled, is an error of Hours alone, before that there are no hours.
func TestBadPlates(t *testing.T) {
	for _, n := range list(-1, 3, 4, math.MaxInt, math.MinInt, 0, 1) {
		a := fine()
		a.plate = n
		if errs, results := a.all(); errs != only(api.ErrNone, ofHours) || !zeroWith(errs, results) {
			t.Error(n, errs, results)
		}
	}
	never := bath(1, 1, plate(600, 600, 0, 0))
	for _, n := range list(-1, 0, 1) {
		want := api.ErrNone
		var l []api.PickleStep
		if n == 0 {
			l = steps(step(0, 1))
		}
		if got, e := pickle.Hours(never, l, n); got != span(0, 0) || e != want {
			t.Error(n, got, e)
		}
	}
	if got, e := pickle.Hours(never, nil, 0); got != span(0, 0) || e != api.ErrState {
		t.Error(got, e)
	}
}

// P6.7, P6.8: the errors of acids, before those of what is wanted.
func TestBadAcids(t *testing.T) {
	type bad struct {
		l []api.PickleAcid
		e api.Errno
	}
	all := []bad{
		{nil, api.ErrNone}, {acids(), api.ErrNone}, {slices.Repeat(acids(acid(1, 1, 1)), 6), api.ErrLong},
		{make([]api.PickleAcid, 6), api.ErrLong}, {make([]api.PickleAcid, 1000), api.ErrLong}, {make([]api.PickleAcid, 5), api.ErrArg},
	}
	for _, n := range append(wrongNumbers(1, api.MaxPickleOunces), 0) {
		all = append(all, bad{acids(acid(n, 1, 1)), api.ErrArg}, bad{acids(acid(10, 30, 30), acid(n, 1, 1)), api.ErrArg})
	}
	for _, s := range wrongSpans(0, api.MaxPickleStrength) {
		all = append(all, bad{acids(acid(1, s.Low, s.High)), api.ErrArg}, bad{acids(acid(1, s.Low, s.High), acid(10, 30, 30)), api.ErrArg})
	}
	for _, x := range all {
		for _, want := range spans(span(10, 12), span(12, 10), span(0, 41), span(0, 0)) {
			a := fine()
			a.acids, a.want = x.l, want
			if errs, results := a.all(); errs != only(x.e, ofMix, ofWater) || !zeroWith(errs, results) {
				t.Error(x, want, errs, results)
			}
		}
	}
}

// P6.8: what is wanted is looked at before the ounces.
func TestBadWants(t *testing.T) {
	for _, want := range wrongSpans(0, api.MaxPickleStrength) {
		a := fine()
		a.want = want
		if errs, results := a.all(); errs != only(api.ErrRange, ofWater) || !zeroWith(errs, results) {
			t.Error(want, errs, results)
		}
	}
	for _, want := range spans(span(0, 0), span(40, 40), span(31, 31)) {
		a := fine()
		a.want = want
		if errs, results := a.all(); errs != only(api.ErrNone, ofWater) || !zeroWith(errs, results) {
			t.Error(want, errs, results)
		}
	}
}

// P6.7, P6.8, R7: each limit of acids can be reached.
func TestGoodAcids(t *testing.T) {
	for i, l := range [][]api.PickleAcid{{acid(1, 0, 0)}, {acid(200, 40, 40)}, {acid(1, 0, 40)}, slices.Repeat(acids(acid(200, 0, 40)), 5)} {
		mix, e := pickle.Mix(l)
		if mix != l[0].Strength || e != api.OK {
			t.Error(i, mix, e)
		}
		if water, e := pickle.Water(l, span(0, 40)); water != span(0, 500) || e != api.OK {
			t.Error(i, water, e)
		}
	}
}

// P6.11: that there are too many uses, then that a span is not valid, then that more is left.
func TestBadCarboys(t *testing.T) {
	check := func(full api.Span, used []api.Span, left api.Span, want api.Errno) {
		t.Helper()
		a := fine()
		a.full, a.used, a.left = full, used, left
		if errs, results := a.all(); errs != only(want, ofMissing) || !zeroWith(errs, results) {
			t.Error(full, used, left, errs, results)
		}
	}
	none, all := span(0, 0), span(0, 5000)
	for _, s := range wrongSpans(0, api.MaxPickleCarboy) {
		check(s, nil, none, api.ErrArg)
		check(all, nil, s, api.ErrArg)
		check(all, spans(s), none, api.ErrArg)
		check(all, append(slices.Repeat(spans(none), 9), s), none, api.ErrArg)
		check(none, spans(s), span(1, 1), api.ErrArg)
		check(none, spans(span(1, 1), s), none, api.ErrArg)
		check(s, slices.Repeat(spans(none), 11), none, api.ErrLong)
		check(all, slices.Repeat(spans(s), 11), s, api.ErrLong)
	}
	check(all, slices.Repeat(spans(none), 1000), none, api.ErrLong)
	check(none, slices.Repeat(spans(none), 11), span(1, 1), api.ErrLong)
	check(none, nil, span(1, 1), api.ErrState)
	check(none, spans(span(1, 1)), none, api.ErrState)
}
