package colour_test

import (
	"math/rand"
	"reflect"
	"slices"
	"testing"

	"smalto/api"
	"smalto/colour"
)

// roomy returns a list with the same elements, and spare room that has others.
func roomy[T any](l []T, spare T) []T {
	out := append(make([]T, 0, len(l)+3), l...)
	for range 3 {
		out = append(out, spare)
	}
	return out[:len(l)]
}

// arguments are all that the functions are given, with spare room behind all lists.
type arguments struct {
	s       api.ColourSet
	plan    [][]int
	colours []int
	trials  [][][]int
}

func roomyArguments() arguments {
	s := works(free)
	s.Paints = roomy(s.Paints, paint(span(1, 2), span(3, 4), 1, 1))
	s.Eats = roomy([]api.ColourPair{{Eater: 3, Eaten: 0}, {Eater: 2, Eaten: 1}}, api.ColourPair{Eater: 1, Eaten: 2})
	plan := func() [][]int {
		return roomy(rounds(roomy(list(0, 1), 7), roomy(list(2), 8), roomy(list(3), 9)), list(5))
	}
	return arguments{s, plan(), roomy(list(0, 1, 2), 6), roomy(plans(plan(), plan()), rounds(list(9)))}
}

// whole returns arguments with the spare room of their lists.
func (a arguments) whole() []any {
	rounds := func(plan [][]int) (out [][]int) {
		for _, round := range plan {
			out = append(out, round[:cap(round)])
		}
		return append(out, plan[:cap(plan)]...)
	}
	out := []any{a.s.Paints[:cap(a.s.Paints)], a.s.Eats[:cap(a.s.Eats)], rounds(a.plan), a.colours[:cap(a.colours)], a.trials[:cap(a.trials)]}
	for _, plan := range a.trials {
		out = append(out, rounds(plan))
	}
	return out
}

// results are those of all functions.
func (a arguments) results() []any {
	surely, possibly, e := colour.Is(a.s, a.plan)
	each, all, f := colour.Firings(a.s, a.plan)
	heats, g := colour.Heats(a.s, rounds(list(0), list(1)))
	plan, h := colour.Plan(a.s, a.colours)
	bar, i := colour.Bar(a.s, list(0, 1, 2, 3))
	with, j := colour.With(a.s, a.colours[:1])
	hot, stretches, k := colour.Told(a.s, a.trials)
	wrong, l := colour.Wrong(a.s, append(a.trials[:1:1], rounds(list(1), list(0))))
	return []any{colour.Check(a.s), surely, possibly, e, each, all, f, heats, g, plan, h, bar, i, with, j, hot, stretches, k, wrong, l}
}

// P2, R4: equal results for equal arguments, none of which is changed, nor what lies behind the end of a list.
func TestArgumentsStay(t *testing.T) {
	a := roomyArguments()
	first := a.results()
	if !reflect.DeepEqual(a.whole(), roomyArguments().whole()) {
		t.Error(a.whole())
	}
	for range 20 {
		if again := roomyArguments().results(); !reflect.DeepEqual(again, first) {
			t.Error(again, first)
		}
	}
}

// R4: what is done to a result changes neither an argument nor another result, nor another part of the same one.
func TestResultsAreNew(t *testing.T) {
	a := roomyArguments()
	a.s.Near = 50
	plan, e := colour.Plan(a.s, a.colours)
	if e != api.OK || len(plan) != 2 {
		t.Fatal(plan, e)
	}
	for i, round := range plan {
		round[0] = 99
		plan[i] = append(round, 77)
	}
	if !equalPlans(plan, rounds(list(99, 77), list(99, 2, 77))) {
		t.Error(plan)
	}
	lists := a.results()
	for _, x := range lists {
		switch l := x.(type) {
		case []int:
			fill(l, -5)
		case []api.Span:
			fill(l, span(-5, -5))
		case [][]int:
			for _, round := range l {
				fill(round, -5)
			}
		}
	}
	if !reflect.DeepEqual(a.whole(), roomyArguments().whole()) {
		t.Error(a.whole())
	}
}

// fill writes over a list and its spare room.
func fill[T any](l []T, x T) {
	l = l[:cap(l)]
	for i := range l {
		l[i] = x
	}
}

// R3: nil and empty lists are the same value.
func TestNilAndEmpty(t *testing.T) {
	none, empty := works(), works()
	none.Eats, empty.Eats = nil, []api.ColourPair{}
	for _, s := range []api.ColourSet{none, empty, {}, {Paints: []api.ColourPaint{}}} {
		a, zero := all(s, nil, nil, nil)
		b, same := all(s, [][]int{}, []int{}, [][][]int{})
		if a != b || zero != same {
			t.Error(s, a, b, zero, same)
		}
	}
	for _, plan := range plans(nil, [][]int{}) {
		surely, possibly, e := colour.Is(works(), plan)
		each, all, f := colour.Firings(works(), plan)
		heats, g := colour.Heats(works(), plan)
		if !surely || !possibly || e+f+g != api.OK || !slices.Equal(each, list(0, 0, 0, 0)) || all != 0 || len(heats) != 0 {
			t.Error(surely, possibly, e, each, all, f, heats, g)
		}
	}
}

// P1: all functions return for arguments of any kind.
func TestAnyArguments(t *testing.T) {
	r := rand.New(rand.NewSource(9))
	small, great := list(0, 1, 2, 3, 4, 5), list(-1, 12, 13, 100, 101, 200, 1000, 1001, 1<<62, -1<<63, 1<<63-1)
	number := func() int {
		if r.Intn(8) > 0 {
			return small[r.Intn(len(small))]
		}
		return great[r.Intn(len(great))]
	}
	numbers := func() (l []int) {
		for range r.Intn(4) {
			l = append(l, number())
		}
		return l
	}
	for range 20000 {
		s := api.ColourSet{Near: number(), Give: number()}
		for range r.Intn(7) {
			s.Paints = append(s.Paints, paint(span(number(), number()), span(number(), number()), number(), number()))
		}
		if r.Intn(2) == 0 {
			s = works()
		}
		for range r.Intn(10) {
			s.Eats = append(s.Eats, api.ColourPair{Eater: number(), Eaten: number()})
		}
		var plan [][]int
		for range r.Intn(4) {
			plan = append(plan, numbers())
		}
		var trials [][][]int
		for range r.Intn(5) {
			trials = append(trials, plan)
		}
		if errs, zero := all(s, plan, numbers(), trials); errs[0] != api.OK && !zero {
			t.Error(s, plan, errs)
		}
	}
}
