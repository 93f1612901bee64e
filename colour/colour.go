// Package colour is about the colours of a sign (chapter 1): whether a plan of rounds is right, the fewest firings, colours that cannot be on one sign, and what plans tell that came out well.
package colour

import (
	"slices"

	"smalto/api"
)

// Check returns the error of a set of colours.
func Check(s api.ColourSet) api.Errno {
	switch {
	case !within(1, api.MaxColours, len(s.Paints)) || !within(0, api.MaxColourNear, s.Near, s.Give):
		return api.ErrForm
	case len(s.Eats) > api.MaxColourEats:
		return api.ErrLong
	case !every(s.Paints, isPaint) || !every(s.Eats, func(p api.ColourPair) bool { return isPair(s, p) }):
		return api.ErrArg
	}
	return api.OK
}

// Is reports whether a plan is right, in all truths and in one at least.
func Is(s api.ColourSet, plan [][]int) (surely, possibly bool, e api.Errno) {
	if e := checkPlans(s, plan); e != api.OK {
		return false, false, e
	}
	_, _, possibly = trials{s, [][][]int{plan}}.truths()
	return fired{s, plan}.surely(), possibly, api.OK
}

// Firings returns how often each colour is fired, and how many firings there are.
func Firings(s api.ColourSet, plan [][]int) (each []int, all int, e api.Errno) {
	if e := checkPlans(s, plan); e != api.OK {
		return nil, 0, e
	}
	each, all = fired{s, plan}.firings()
	return each, all, api.OK
}

// Heats returns at which heats the furnace may be in each round of a plan.
func Heats(s api.ColourSet, plan [][]int) ([]api.Span, api.Errno) {
	if e := checkPlans(s, plan); e != api.OK {
		return nil, e
	}
	f := fired{s, plan}
	if !f.surely() {
		return nil, api.ErrState
	}
	return f.heats(), api.OK
}

// Plan returns how some colours are fired in the fewest firings.
func Plan(s api.ColourSet, colours []int) ([][]int, api.Errno) {
	if e := checkColours(s, colours); e != api.OK {
		return nil, e
	}
	plan, ok := sign{s, colours}.plan()
	if !ok {
		return nil, api.ErrNone
	}
	return plan, api.OK
}

// Bar returns the fewest colours that cannot be on one sign.
func Bar(s api.ColourSet, colours []int) ([]int, api.Errno) {
	if e := checkColours(s, colours); e != api.OK {
		return nil, e
	}
	if (sign{s, colours}).can() {
		return nil, api.ErrTwice
	}
	return fewest(colours, func(part []int) bool { return !sign{s, part}.can() }), api.OK
}

// With returns the colours that can be on a sign besides.
func With(s api.ColourSet, colours []int) ([]int, api.Errno) {
	if e := checkColours(s, colours); e != api.OK {
		return nil, e
	}
	var with []int
	for c := range len(s.Paints) {
		if !slices.Contains(colours, c) && (sign{s, slices.Concat(colours, []int{c})}).can() {
			with = append(with, c)
		}
	}
	return with, api.OK
}

// Told returns the heats and stretches of all colours after some plans came out well.
func Told(s api.ColourSet, plans [][][]int) (heats, stretches []api.Span, e api.Errno) {
	if e := checkTrials(s, plans); e != api.OK {
		return nil, nil, e
	}
	heat, stretch, ok := trials{s, plans}.truths()
	if !ok {
		return nil, nil, api.ErrState
	}
	return heat.spans(len(s.Paints)), stretch.spans(len(s.Paints)), api.OK
}

// Wrong returns the fewest plans that cannot have come out well.
func Wrong(s api.ColourSet, plans [][][]int) ([]int, api.Errno) {
	if e := checkTrials(s, plans); e != api.OK {
		return nil, e
	}
	t := trials{s, plans}
	if t.can(nil) {
		return nil, api.ErrTwice
	}
	var numbers []int
	for i := range len(plans) {
		numbers = append(numbers, i)
	}
	return fewest(numbers, t.can), api.OK
}
