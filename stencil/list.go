package stencil

import (
	"iter"
	"slices"
)

// unique returns the numbers of a list, each once: ascending.
func unique(l []int) []int {
	return slices.Compact(slices.Sorted(slices.Values(l)))
}

// those returns the numbers of the elements of a list for which a condition holds.
func those(l []int, ok func(x int) bool) []int {
	var out []int
	for n, x := range l {
		if ok(x) {
			out = append(out, n)
		}
	}
	return out
}

// lists yields all lists of numbers that begin so, and go on with one or more that ascend, from one number to below another: from the smallest list on.
func lists(begin []int, from, below int) iter.Seq[[]int] {
	return func(yield func([]int) bool) {
		for n := from; n < below; n++ {
			l := slices.Concat(begin, []int{n})
			if !yield(l) {
				return
			}
			for longer := range lists(l, n+1, below) {
				if !yield(longer) {
					return
				}
			}
		}
	}
}
