package letter

import (
	"iter"
	"slices"
)

// with returns a list with one number more behind it: in new memory, so that lists which begin alike do not write over each other, nor into the spare room of an argument.
func with[T any](l []T, x T) []T {
	return append(l[:len(l):len(l)], x)
}

// replaced returns a list with another number at a place.
func replaced(l []int, at, number int) []int {
	out := slices.Clone(l)
	out[at] = number
	return out
}

// numbers returns the integers from low to high.
func numbers(low, high int) []int {
	var out []int
	for n := low; n <= high; n++ {
		out = append(out, n)
	}
	return out
}

// sum returns what numbers are together.
func sum(numbers ...int) int {
	out := 0
	for _, n := range numbers {
		out += n
	}
	return out
}

// fewest returns the fewest places of a list without which the rest of it is as wanted, of several such lists the smallest one, and whether there is one.
func fewest[T any](l []T, wanted func(rest []T) bool) (places []int, ok bool) {
	for size := range len(l) + 1 {
		for places := range sets(numbers(0, len(l)-1), size) {
			if wanted(without(l, places...)) {
				return places, true
			}
		}
	}
	return nil, false
}

// without returns what is left of a list without some places.
func without[T any](l []T, places ...int) []T {
	var out []T
	for at, x := range l {
		if !slices.Contains(places, at) {
			out = append(out, x)
		}
	}
	return out
}

// sets yields all lists of so many elements of a list, in its order: from the smallest one on, if it ascends.
func sets[T any](l []T, size int) iter.Seq[[]T] {
	return func(yield func([]T) bool) { longerSets(nil, l, size, yield) }
}

// longerSets yields the lists that begin so, and go on with so many elements of a list; it reports whether more are wanted.
func longerSets[T any](begin, l []T, size int, yield func([]T) bool) bool {
	if size == 0 {
		return yield(begin)
	}
	for i, x := range l {
		if !longerSets(with(begin, x), l[i+1:], size-1, yield) {
			return false
		}
	}
	return true
}
