package pickle_test

import (
	"math/rand"
	"reflect"
	"slices"
	"testing"

	"smalto/api"
	"smalto/pickle"
)

// spared returns a list with the same elements, and spare room that has others.
func spared[T any](l []T, spare T) []T {
	out := append(make([]T, 0, len(l)+3), l...)
	for range 3 {
		out = append(out, spare)
	}
	return out[:len(l)]
}

// spare returns arguments with spare room behind all lists.
func (a arguments) spare() arguments {
	a.b.Plates, a.order, a.steps = spared(a.b.Plates, plate(7, 8, 9, 10)), spared(a.order, 2), spared(a.steps, step(2, 3))
	a.seen, a.lied, a.acids, a.used = spared(a.seen, seen(2, 3, good)), spared(a.lied, seen(1, 2, eaten)), spared(a.acids, acid(3, 4, 5)), spared(a.used, span(6, 7))
	return a
}

// whole returns arguments with the spare room of their lists.
func (a arguments) whole() []any {
	return []any{
		a.b.Strength, a.b.Plates[:cap(a.b.Plates)], a.order[:cap(a.order)], a.steps[:cap(a.steps)], a.plate, a.seen[:cap(a.seen)], a.lied[:cap(a.lied)],
		a.acids[:cap(a.acids)], a.want, a.full, a.used[:cap(a.used)], a.left,
	}
}

// samples returns arguments of several kinds.
func samples() []arguments {
	out := slices.Repeat([]arguments{fine()}, 5)
	out[1].b, out[1].order, out[1].steps, out[1].plate, out[1].seen = hungry(), list(2, 1, 0), steps(step(2, 3)), 0, nil
	out[2].b, out[2].acids, out[2].used = bath(10, 10, plate(5, 5, 0, 1), plate(5, 5, 5, 5), plate(20, 40, 0, 30)), acids(acid(1, 2, 3), acid(4, 5, 6)), nil
	out[3].b, out[3].order, out[3].steps, out[3].plate, out[3].seen, out[3].lied = bath(1, 40), nil, nil, 0, nil, nil
	out[4].order, out[4].steps, out[4].seen, out[4].lied = nil, nil, sights(seen(0, 5, good), seen(2, 3, good)), sights(seen(2, 24, good), seen(1, 24, dirty))
	return out
}

// P2, R4: equal results for equal arguments, none of which is changed, nor what lies behind the end of a list.
func TestArgumentsStay(t *testing.T) {
	for i, x := range samples() {
		a := x.spare()
		errs, first := a.all()
		if !reflect.DeepEqual(a.whole(), x.spare().whole()) {
			t.Error(i, a.whole())
		}
		for range 20 {
			if again, results := x.spare().all(); again != errs || !reflect.DeepEqual(results, first) {
				t.Error(i, again, results, first)
			}
		}
	}
}

// over writes over a list and its spare room.
func over[T any](l []T, x T) {
	l = l[:cap(l)]
	for i := range l {
		l[i] = x
	}
}

// fill writes over all lists of a result.
func fill(x any) {
	switch v := x.(type) {
	case []int:
		over(v, -5)
	case []api.Span:
		over(v, span(-5, -5))
	case []api.PickleStep:
		over(v, step(-5, -5))
	case [][]api.PickleHow:
		for _, l := range v {
			over(l, -5)
		}
	}
}

// R4: what is done to a result changes neither an argument nor another result.
func TestResultsAreNew(t *testing.T) {
	for i, x := range samples() {
		a := x.spare()
		_, results := a.all()
		for j := range results {
			_, others := a.all()
			fill(results[j])
			for k := range results {
				if k > j && !reflect.DeepEqual(results[k], others[k]) {
					t.Error(i, j, k, results[k], others[k])
				}
			}
		}
		if !reflect.DeepEqual(a.whole(), x.spare().whole()) {
			t.Error(i, a.whole())
		}
	}
	// The lists of one result do not lie in each other's room.
	out, e := pickle.Out(example(), steps(step(0, 4), step(1, 7), step(2, 4)))
	over(out[0], -5)
	if !slices.Equal(out[1], ways(good)) || !slices.Equal(out[2], ways(good)) || e != api.OK {
		t.Error(out, e)
	}
}

// R3: nil and empty lists are the same value.
func TestNilAndEmpty(t *testing.T) {
	for i, x := range []arguments{{}, {b: bath(1, 1)}, {b: example()}, {b: example(), full: span(3, 3)}} {
		errs, results := x.all()
		empty := x
		empty.order, empty.steps, empty.seen, empty.lied, empty.acids, empty.used = list(), steps(), sights(), sights(), acids(), spans()
		if x.b.Plates == nil {
			empty.b.Plates = []api.PicklePlate{}
		}
		again, others := empty.all()
		if errs != again || !slices.EqualFunc(results, others, equal) {
			t.Error(i, errs, again, results, others)
		}
	}
}

// equal reports whether two results are equal, nil lists and empty ones alike.
func equal(a, b any) bool {
	return reflect.DeepEqual(a, b) || isZero(a) && isZero(b)
}

// P1: all functions return for arguments of any kind, and nothing with an error.
func TestAnyArguments(t *testing.T) {
	r := rand.New(rand.NewSource(11))
	great := list(-2, -1, 0, 4, 6, 41, 601, 5001, 1<<62, -1<<63, 1<<63-1)
	number := func(low, high int) int {
		if r.Intn(120) > 0 {
			return some(r, low, high)
		}
		return great[r.Intn(len(great))]
	}
	within := func(low, high int) api.Span {
		from := number(low, high)
		return span(from, number(max(low, min(from, high)), high))
	}
	var right [functions]int
	for range 6000 {
		a := arguments{b: api.PickleBath{Strength: within(1, 40)}, plate: number(0, 4), want: within(0, 40), full: within(0, 5000), left: within(0, 500)}
		for range number(0, 5) % 7 {
			p := plate(0, 0, number(0, 3), number(100, 300))
			p.Rust = within(0, 60)
			a.b.Plates = append(a.b.Plates, p)
		}
		for i, n := range r.Perm(len(a.b.Plates)) {
			s := api.PickleSeen{Step: step(number(n, n), number(1, 24)), How: api.PickleHow(number(1, 3))}
			a.order = append(a.order, number(n, n))
			if i > 2 {
				continue
			}
			a.steps, a.seen, a.lied = append(a.steps, s.Step), append(a.seen, s), append(a.lied, s)
		}
		for range number(0, 5) % 7 {
			s := within(0, 40)
			a.acids = append(a.acids, acid(number(1, 200), s.Low, s.High))
		}
		for range number(0, 10) % 12 {
			a.used = append(a.used, within(0, 400))
		}
		errs, results := a.all()
		if !zeroWith(errs, results) {
			t.Error(a, errs, results)
		}
		for of, e := range errs {
			if e == api.OK {
				right[of]++
			} else if errs[ofCheck] != api.OK && slices.Contains(withBath, of) && e != errs[ofCheck] {
				t.Error(a, of, errs)
			}
		}
	}
	if slices.Min(right[:]) < 300 {
		t.Error("too few calls are right:", right)
	}
}

// P1: the widest bath, with as many plates and acids as there may be, is answered like any other one.
func TestFullArguments(t *testing.T) {
	a := fine()
	a.b = bath(1, 40, slices.Repeat([]api.PicklePlate{plate(0, 600, 10, 300)}, 5)...)
	a.order, a.plate = list(4, 3, 2, 1, 0), 0
	a.steps = steps(step(4, 24), step(3, 24), step(2, 24), step(1, 24))
	a.seen = sights(seen(0, 24, dirty), seen(1, 24, dirty), seen(2, 24, dirty), seen(3, 24, dirty), seen(4, 24, dirty))
	a.lied = sights(seen(0, 24, eaten), seen(1, 24, eaten), seen(2, 24, eaten), seen(3, 24, eaten), seen(4, 1, eaten))
	a.acids, a.want = slices.Repeat(acids(acid(200, 0, 40)), 5), span(0, 30)
	a.full, a.used, a.left = span(0, 5000), slices.Repeat(spans(span(0, 5000)), 10), span(0, 5000)
	errs, results := a.all()
	want := only(api.ErrState, ofHours, ofOrder, ofFillings)
	if errs != want || !zeroWith(errs, results) {
		t.Error(errs, results)
	}
	strength, rusts, wrong := results[7], results[8], results[9]
	if strength != span(1, 24) || !reflect.DeepEqual(rusts, spans(span(25, 600), span(1, 600), span(1, 600), span(1, 600), span(1, 600))) || !reflect.DeepEqual(wrong, list(3, 4)) {
		t.Error(strength, rusts, wrong)
	}
	a.b = bath(40, 40, slices.Repeat([]api.PicklePlate{plate(600, 600, 10, 300)}, 5)...)
	if l, e := pickle.Fillings(a.b); !slices.Equal(l, list(0, 0, 1, 1, 2)) || e != api.OK {
		t.Error(l, e)
	}
}
