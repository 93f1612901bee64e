package fork_test

import (
	"math/rand"
	"reflect"
	"slices"
	"testing"

	"smalto/api"
	"smalto/fork"
)

// spared returns a list with the same elements, and spare room that has others.
func spared[T any](l []T, spare T) []T {
	out := append(make([]T, 0, len(l)+3), l...)
	for range 3 {
		out = append(out, spare)
	}
	return out[:len(l)]
}

// sparedArguments returns arguments with spare room behind all lists; all functions return something for them, Bar where the load does not go.
func sparedArguments(load ...int) arguments {
	g := example()
	g.l = spared(g.l, sign(1, 1, span(1, 1), span(1, 1)))
	return arguments{g, spared(load, -7), spared(list(0, 0, 0, 1, 0), -7)}
}

// whole returns arguments with the spare room of their lists.
func (a arguments) whole() []any {
	return []any{a.r, a.l[:cap(a.l)], a.load[:cap(a.load)], a.loads[:cap(a.loads)]}
}

// P2, R4: equal results for equal arguments, none of which is changed, nor what lies behind the end of a list.
func TestArgumentsStay(t *testing.T) {
	for _, load := range [][]int{{0, 1}, {2}, {2, 3}, {0, 1, 2, 3}, nil} {
		a := sparedArguments(load...)
		errs, first := a.all()
		if !reflect.DeepEqual(a.whole(), sparedArguments(load...).whole()) {
			t.Error(load, a.whole())
		}
		for range 20 {
			if again, results := sparedArguments(load...).all(); again != errs || !reflect.DeepEqual(results, first) {
				t.Error(load, again, results, first)
			}
		}
	}
}

// fill writes over a list and its spare room.
func fill(l []int, x int) {
	l = l[:cap(l)]
	for i := range l {
		l[i] = x
	}
}

// R4: what is done to a result changes neither an argument nor another result.
func TestResultsAreNew(t *testing.T) {
	for _, load := range [][]int{{0, 1}, {3}, {0, 2, 3}, {0, 1, 2, 3, 4}} {
		a := sparedArguments(load...)
		_, results := a.all()
		for j, x := range results {
			_, others := a.all()
			if l, ok := x.([]int); ok {
				fill(l, -5)
			}
			for k := range results {
				if k > j && !reflect.DeepEqual(results[k], others[k]) {
					t.Error(load, j, k, results[k], others[k])
				}
			}
		}
		if !reflect.DeepEqual(a.whole(), sparedArguments(load...).whole()) {
			t.Error(load, a.whole())
		}
	}
}

// R4: loads that stay as they are are returned in new memory.
func TestPutIsNew(t *testing.T) {
	g, written := example(), spared(list(0, 0, 1, 0, 1), 3)
	to, _, _ := fork.Put(g.r, g.l, written)
	fill(to, -5)
	if !slices.Equal(written[:cap(written)], list(0, 0, 1, 0, 1, 3, 3, 3)) {
		t.Error(written[:cap(written)])
	}
}

// R3: nil and empty lists are the same value.
func TestNilAndEmpty(t *testing.T) {
	for _, g := range []given{{r: roomy()}, {}} {
		a, results := arguments{given: g}.all()
		b, again := arguments{given{g.r, []api.ForkSign{}}, []int{}, []int{}}.all()
		if a != b || !slices.EqualFunc(results, again, equal) {
			t.Error(a, b, results, again)
		}
	}
	g := example()
	a, results := arguments{g, nil, list(0, 0, 0, 1, 0)}.all()
	b, again := arguments{g, []int{}, list(0, 0, 0, 1, 0)}.all()
	if a != b || !slices.EqualFunc(results, again, equal) {
		t.Error(a, b, results, again)
	}
}

// equal reports whether two results are equal, nil lists and empty ones alike.
func equal(a, b any) bool {
	x, ok := a.([]int)
	y, _ := b.([]int)
	return reflect.DeepEqual(a, b) || ok && slices.Equal(x, y)
}

// P1: all functions return for arguments of any kind, and nothing with an error.
func TestAnyArguments(t *testing.T) {
	r := rand.New(rand.NewSource(11))
	great := list(-1, 0, 6, 7, 21, 101, 201, 501, 1001, 2001, 1<<62, -1<<63, 1<<63-1)
	number := func(most int) int {
		if r.Intn(60) > 0 {
			return 1 + r.Intn(most)
		}
		return great[r.Intn(len(great))]
	}
	anySpan := func(most int) api.Span {
		low := number(most)
		return span(low, max(low, number(most)))
	}
	fine := 0
	for range 5000 {
		a := arguments{given: given{r: bars(number(3), number(200), number(20), number(2000), number(100))}}
		for i := range r.Intn(api.MaxForkSigns + 2) {
			a.l = append(a.l, sign(number(200), number(100), anySpan(500), anySpan(1000)))
			if r.Intn(2) == 0 {
				a.load = append(a.load, i)
			}
			a.loads = append(a.loads, number(6)-1)
		}
		if r.Intn(10) == 0 {
			a.load, a.loads = append(a.load, number(6)), append(a.loads, number(6))
		}
		errs, results := a.all()
		if !zeroWith(errs, results) || errs[ofCheck] != api.OK && errs != same(errs[ofCheck]) {
			t.Error(a, errs, results)
		}
		if errs[ofCheck] == api.OK {
			fine++
		}
	}
	if fine < 1000 {
		t.Error("too few forks are valid:", fine)
	}
}

// P1: as many signs as there may be, on the most bars, are answered like any other ones.
func TestFullForks(t *testing.T) {
	for _, n := range list(1, 59, 60, 66, 67, 99, 100, 200) {
		g := given{bars(3, 200, 1, 2000, 100), long(n, n, n, n, n, n)}
		for _, loads := range [][]int{{5, 5, 5, 5, 5, 5}, {0, 1, 2, 3, 4, 5}, {2, 2, 2, 2, 2, 2}, {1, 1, 1, 1, 1, 1}} {
			errs, _ := arguments{g, list(0, 1, 2, 3, 4, 5), loads}.all()
			if errs[ofCheck] != api.OK || errs[ofLoads] != api.OK || errs[ofDear] != api.OK || errs[ofPut] == api.ErrForm {
				t.Error(n, loads, errs)
			}
		}
	}
}
