package pickle

import (
	"iter"
	"slices"

	"smalto/api"
)

// numbers returns the numbers of a list of so many elements.
func numbers(many int) []int {
	var out []int
	for n := range many {
		out = append(out, n)
	}
	return out
}

// places returns the numbers of those elements of a list that are this one.
func places(l []int, x int) []int {
	var out []int
	for i, y := range l {
		if y == x {
			out = append(out, i)
		}
	}
	return out
}

// count returns how often a list has a number.
func count(l []int, n int) int {
	return len(places(l, n))
}

// platesOf returns the plates of steps.
func platesOf(l []api.PickleStep) []int {
	var out []int
	for _, s := range l {
		out = append(out, s.Plate)
	}
	return out
}

// stepsOf returns the steps of what was seen.
func stepsOf(l []api.PickleSeen) []api.PickleStep {
	var out []api.PickleStep
	for _, s := range l {
		out = append(out, s.Step)
	}
	return out
}

// orders yields all orders of numbers that begin so, and go on with the rest: from the smallest one on if the rest ascends.
func orders(begin, rest []int) iter.Seq[[]int] {
	return func(yield func([]int) bool) {
		if len(rest) == 0 {
			yield(begin)
			return
		}
		for i, n := range rest {
			others := slices.Concat(rest[:i], rest[i+1:])
			for order := range orders(slices.Concat(begin, []int{n}), others) {
				if !yield(order) {
					return
				}
			}
		}
	}
}

// lists yields all lists of so many numbers that begin so, each below a number, from the smallest one on.
func lists(begin []int, many, below int) iter.Seq[[]int] {
	return func(yield func([]int) bool) {
		if len(begin) == many {
			yield(begin)
			return
		}
		for n := range below {
			for l := range lists(slices.Concat(begin, []int{n}), many, below) {
				if !yield(l) {
					return
				}
			}
		}
	}
}
