package furnace_test

import (
	"math/rand"
	"reflect"
	"slices"
	"testing"

	"smalto/api"
	"smalto/furnace"
)

// roomy returns a list with the same elements, and spare room that has others.
func roomy[T any](l []T, spare T) []T {
	out := append(make([]T, 0, len(l)+3), l...)
	for range 3 {
		out = append(out, spare)
	}
	return out[:len(l)]
}

// roomyArguments returns arguments with spare room behind all lists; all functions return something for them, or for what liar makes of them.
func roomyArguments(changes ...change) arguments {
	o := oven(withCone(0, 750, true))
	o.Signs = append(o.Signs, sign(2, 100, 900, api.FurnaceGood))
	o = changed(o, changes...)
	o.Heats = roomy(o.Heats, span(1, 2))
	o.Pairs = roomy(o.Pairs, pair(0, 2, 1))
	o.Cones = roomy(o.Cones, cone(0, 1, false))
	o.Signs = roomy(o.Signs, sign(0, 1, 2, api.FurnaceRan))
	put := sets(set(0, 700, 810), set(1, 600, 820))
	return arguments{o, 0, 2, ware(720, 810), roomy(wares(ware(720, 810), ware(700, 795)), ware(5, 5)), roomy(put, set(9, 5, 5))}
}

// liar makes two notes wrong.
func liar(o *api.FurnaceOven) {
	withCone(0, 820, true)(o)
	withCone(1, 900, true)(o)
}

// whole returns arguments with the spare room of their lists.
func (a arguments) whole() []any {
	return []any{a.o.Heats[:cap(a.o.Heats)], a.o.Pairs[:cap(a.o.Pairs)], a.o.Cones[:cap(a.o.Cones)], a.o.Signs[:cap(a.o.Signs)], a.l[:cap(a.l)], a.sets[:cap(a.sets)]}
}

// P2, R4: equal results for equal arguments, none of which is changed, nor what lies behind the end of a list.
func TestArgumentsStay(t *testing.T) {
	for i, l := range [][]change{nil, {liar}} {
		a := roomyArguments(l...)
		errs, first := a.all()
		want := same(api.OK)
		want[ofWrong] = api.ErrTwice
		if i == 1 {
			want = same(api.ErrState)
			want[ofCheck], want[ofWrong] = api.OK, api.OK
		}
		if errs != want {
			t.Error(i, errs)
		}
		if !reflect.DeepEqual(a.whole(), roomyArguments(l...).whole()) {
			t.Error(i, a.whole())
		}
		for range 20 {
			if again, results := roomyArguments(l...).all(); again != errs || !reflect.DeepEqual(results, first) {
				t.Error(i, again, results, first)
			}
		}
	}
}

// fill writes over a list and its spare room.
func fill[T any](l []T, x T) {
	l = l[:cap(l)]
	for i := range l {
		l[i] = x
	}
}

// R4: what is done to a result changes neither an argument nor another result.
func TestResultsAreNew(t *testing.T) {
	for i, l := range [][]change{nil, {liar}} {
		a := roomyArguments(l...)
		_, results := a.all()
		for j, x := range results {
			_, others := a.all()
			switch v := x.(type) {
			case []int:
				fill(v, -5)
			case []api.Span:
				fill(v, span(-5, -5))
			}
			for k := range results {
				if k > j && !reflect.DeepEqual(results[k], others[k]) {
					t.Error(i, j, k, results[k], others[k])
				}
			}
		}
		if !reflect.DeepEqual(a.whole(), roomyArguments(l...).whole()) {
			t.Error(i, a.whole())
		}
	}
}

// R3: nil and empty lists are the same value.
func TestNilAndEmpty(t *testing.T) {
	empty := func(o *api.FurnaceOven) {
		o.Pairs, o.Cones, o.Signs = []api.FurnacePair{}, []api.FurnaceCone{}, []api.FurnaceSign{}
	}
	for _, heats := range [][]api.Span{nil, spans(span(3, 5), span(4, 8))} {
		a, results := arguments{o: bare(heats), b: 1, w: ware(3, 6)}.all()
		if heats == nil {
			heats = []api.Span{}
		}
		b, again := arguments{bare(heats, empty), 0, 1, ware(3, 6), []api.FurnaceWare{}, []api.FurnaceSet{}}.all()
		if a != b || !slices.EqualFunc(results, again, equal) {
			t.Error(a, b, results, again)
		}
	}
}

// equal reports whether two results are equal, nil lists and empty ones alike.
func equal(a, b any) bool {
	return reflect.DeepEqual(a, b) || isEmpty(a) && isEmpty(b)
}

func isEmpty(x any) bool {
	v := reflect.ValueOf(x)
	return v.Kind() == reflect.Slice && v.Len() == 0
}

// P1: all functions return for arguments of any kind, and nothing with an error.
func TestAnyArguments(t *testing.T) {
	r := rand.New(rand.NewSource(10))
	small, great := list(0, 1, 2, 3, 4, 5), list(-1, 6, 300, 999, 1000, 1001, 1<<62, -1<<63, 1<<63-1)
	number := func() int {
		if r.Intn(12) > 0 {
			return small[r.Intn(len(small))]
		}
		return great[r.Intn(len(great))]
	}
	anySpan := func() api.Span {
		a := number()
		return span(a, max(a, number()))
	}
	fine := 0
	for range 3000 {
		a := arguments{a: number(), b: number(), w: ware(number(), number())}
		for range r.Intn(7) {
			a.o.Heats = append(a.o.Heats, anySpan())
		}
		for range r.Intn(4) {
			a.o.Pairs = append(a.o.Pairs, pair(number(), number(), number()))
			a.sets = append(a.sets, set(number(), number(), number()))
		}
		for range r.Intn(4) {
			a.o.Cones = append(a.o.Cones, cone(number(), number(), r.Intn(2) == 0))
			a.l = append(a.l, ware(number(), number()))
		}
		if r.Intn(5) == 0 {
			a.o.Signs = append(a.o.Signs, sign(number(), number(), number(), api.FurnaceHow(number())))
		}
		if r.Intn(3) == 0 {
			a.o = oven()
		}
		errs, results := a.all()
		if !zeroWith(errs, results) || errs[ofCheck] != api.OK && errs != same(errs[ofCheck]) {
			t.Error(a, errs, results)
		}
		if errs[ofHeats] == api.OK {
			fine++
		}
	}
	if fine < 1000 {
		t.Error("too few furnaces have a truth:", fine)
	}
}

// P2.8, P2.10: a furnace that is full of notes which do not agree is answered like any other one.
func TestFullOvens(t *testing.T) {
	o := bare(slices.Repeat(spans(span(0, 1000)), api.MaxFurnacePlaces))
	for i := range api.MaxFurnacePairs {
		withPair(i%5, (i+1)%5, 0)(&o)
	}
	for i := range api.MaxFurnaceCones {
		withCone(i%5, 500+i/2, i%2 == 0)(&o)
	}
	for i := range api.MaxFurnaceSigns {
		withSign(i, 100*i, 100*i+100, api.FurnaceGood)(&o)
	}
	wrong, e := furnace.Wrong(o)
	if !slices.Equal(wrong, list(0, 2, 4, 6, 7, 8)) || e != api.OK {
		t.Error(wrong, e)
	}
	_, e = furnace.Heats(o)
	place, heat, left, f := furnace.Trial(less(o, wrong...))
	if e != api.ErrState || place != 0 || heat != 350 || left != 245 || f != api.OK {
		t.Error(place, heat, left, e, f)
	}
}
