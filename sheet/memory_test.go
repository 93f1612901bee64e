package sheet_test

import (
	"math/rand"
	"reflect"
	"slices"
	"testing"

	"smalto/api"
	"smalto/sheet"
)

// spared returns a list with the same elements, and spare room that has others.
func spared[T any](l []T, spare T) []T {
	out := append(make([]T, 0, len(l)+3), l...)
	for range 3 {
		out = append(out, spare)
	}
	return out[:len(l)]
}

// spare returns arguments with spare room behind all lists.
func (a arguments) spare() arguments {
	a.l, a.set, a.cuts = spared(a.l, plate(2, 2, 1)), spared(a.set, 3), spared(a.cuts, upright(1, 1))
	return a
}

// whole returns arguments with the spare room of their lists.
func (a arguments) whole() []any {
	return []any{a.r, a.l[:cap(a.l)], a.set[:cap(a.set)], a.piece, a.cuts[:cap(a.cuts)]}
}

// samples returns arguments of several kinds.
func samples() []arguments {
	out := slices.Repeat([]arguments{fine()}, 5)
	out[1].set, out[1].piece, out[1].cuts = list(0, 3), size(30, 30), eight()
	out[2].l, out[2].set = slices.Repeat(plates(plate(5, 5, 0)), 5), list(0, 2, 4)
	out[3].r, out[3].cuts = rules(18, 10, 0), cuts(upright(0, 9))
	out[4].r, out[4].l, out[4].set = rules(1, 1, 3), plates(plate(2, 2, 0)), nil
	return out
}

// P2, R4: equal results for equal arguments, none of which is changed, nor what lies behind the end of a list.
func TestArgumentsStay(t *testing.T) {
	for i, x := range samples() {
		a := x.spare()
		errs, first := a.all()
		if !reflect.DeepEqual(a.whole(), x.spare().whole()) {
			t.Error(i, a.whole())
		}
		for range 20 {
			if again, results := x.spare().all(); again != errs || !reflect.DeepEqual(results, first) {
				t.Error(i, again, results, first)
			}
		}
	}
}

// fill writes over lists and their spare room.
func fill(x any) {
	switch v := x.(type) {
	case []int:
		v = v[:cap(v)]
		for i := range v {
			v[i] = -5
		}
	case []api.SheetSize:
		v = v[:cap(v)]
		for i := range v {
			v[i] = size(-5, -5)
		}
	}
}

// R4: what is done to a result changes neither an argument nor another result.
func TestResultsAreNew(t *testing.T) {
	for i, x := range samples() {
		a := x.spare()
		_, results := a.all()
		for j := range results {
			_, others := a.all()
			fill(results[j])
			for k := range results {
				if k > j && !reflect.DeepEqual(results[k], others[k]) {
					t.Error(i, j, k, results[k], others[k])
				}
			}
		}
		if !reflect.DeepEqual(a.whole(), x.spare().whole()) {
			t.Error(i, a.whole())
		}
	}
}

// R3: nil and empty lists are the same value.
func TestNilAndEmpty(t *testing.T) {
	for i, x := range []arguments{{}, {r: example()}, {r: example(), l: four()}, {r: example(), piece: size(3, 3)}, {r: example(), l: four(), piece: size(3, 3)}} {
		errs, results := x.all()
		empty := x
		empty.set, empty.cuts = list(), cuts()
		if x.l == nil {
			empty.l = plates()
		}
		again, others := empty.all()
		if errs != again || !slices.EqualFunc(results, others, equal) {
			t.Error(i, errs, again, results, others)
		}
	}
}

// equal reports whether two results are equal, nil lists and empty ones alike.
func equal(a, b any) bool {
	return reflect.DeepEqual(a, b) || isZero(a) && isZero(b)
}

// P1: all functions return for arguments of any kind, and nothing with an error.
func TestAnyArguments(t *testing.T) {
	r := rand.New(rand.NewSource(11))
	great := list(-2, -1, 0, 4, 6, 31, 32, 1<<62, -1<<63, 1<<63-1)
	number := func(low, high int) int {
		if r.Intn(80) > 0 {
			return some(r, low, high)
		}
		return great[r.Intn(len(great))]
	}
	var right [functions]int
	for i := range 8000 {
		side := []int{10, 12, 14, 16, 30}[i%5]
		a := arguments{r: rules(number(1, side), number(1, side), number(0, 3)), piece: size(number(1, side), number(1, side))}
		for n := range number(0, 4) % 8 {
			p := plate(number(1, 20), number(1, 20), number(0, 2))
			p.Grain = r.Intn(2) == 0
			a.l = append(a.l, p)
			if r.Intn(2) == 0 {
				a.set = append(a.set, number(n, n))
			}
		}
		for n := range number(0, 2) % 12 {
			a.cuts = append(a.cuts, api.SheetCut{Piece: number(0, n), Across: r.Intn(2) == 0, At: number(1, 8)})
		}
		errs, results := a.all()
		if !zeroWith(errs, results) {
			t.Error(a, errs, results)
		}
		for of, e := range errs {
			if e == api.OK {
				right[of]++
			} else if of != ofPieces && errs[ofCheck] != api.OK && e != errs[ofCheck] {
				t.Error(a, of, errs)
			}
		}
	}
	if slices.Min(right[:]) < 1000 {
		t.Error("too few calls are right:", right)
	}
}

// P1: the largest sheet, with as many plates and cuts as there may be, is answered like any other one.
func TestFullArguments(t *testing.T) {
	for i, side := range list(1, 7, 13, 20, 30) {
		l := slices.Repeat(plates(plate(side, max(side/2, 1), i%2)), api.MaxSheetPlates)
		l[i] = grain(30, 1, 0)
		a := arguments{r: rules(30, 30, i%4), l: l, set: list(0, 1, 2, 3, 4), piece: size(30, 29)}
		for n := range api.MaxSheetCuts {
			a.cuts = append(a.cuts, api.SheetCut{Piece: n, Across: n%2 == 0, At: 3})
		}
		want := only(api.OK)
		if side > 13 {
			want = only(api.ErrNone, ofRest)
		}
		if errs, results := a.all(); errs != want {
			t.Error(side, errs, results)
		}
	}
	if l, e := sheet.Sheets(rules(30, 30, 3), slices.Repeat(plates(plate(30, 30, 0)), 5)); !slices.Equal(l, list(0, 1, 2, 3, 4)) || e != api.OK {
		t.Error(l, e)
	}
}
