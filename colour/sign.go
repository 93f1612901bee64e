package colour

import (
	"iter"
	"slices"

	"smalto/api"
)

// sign is colours of a set that are to be on one sign.
type sign struct {
	api.ColourSet
	colours []int
}

// plan returns the plan that surely is right with the fewest firings, and whether there is one.
func (s sign) plan() (best [][]int, ok bool) {
	least := 0
	for plan := range s.right {
		_, all := fired{s.ColourSet, plan}.firings()
		if !ok || all < least {
			best, least, ok = plan, all, true
		}
	}
	return best, ok
}

// can reports whether there is a plan that surely is right.
func (s sign) can() bool {
	for range s.right {
		return true
	}
	return false
}

// right yields the plans of just these colours that surely are right, from the smallest one on if the colours ascend.
func (s sign) right(yield func([][]int) bool) {
	s.after(nil)(yield)
}

// after yields the plans that begin with some rounds. What is wrong with a beginning is wrong with all that begin so.
func (s sign) after(begin [][]int) iter.Seq[[][]int] {
	return func(yield func([][]int) bool) {
		if !(fired{s.ColourSet, begin}).surely() {
			return
		}
		rest := without(s.colours, slices.Concat(begin...))
		if len(rest) == 0 {
			yield(begin)
			return
		}
		for round := range parts(nil, rest) {
			for plan := range s.after(slices.Concat(begin, [][]int{round})) {
				if !yield(plan) {
					return
				}
			}
		}
	}
}
