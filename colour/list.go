package colour

import (
	"iter"
	"slices"
)

// every reports whether a condition holds for all elements of a list, and looks no further than the first for which it does not.
func every[T any](l []T, ok func(T) bool) bool {
	return !slices.ContainsFunc(l, func(x T) bool { return !ok(x) })
}

// mapped returns what each element of a list becomes.
func mapped[T, U any](l []T, to func(T) U) []U {
	out := make([]U, 0, len(l))
	for _, x := range l {
		out = append(out, to(x))
	}
	return out
}

// without returns the elements of a list that are not in another one.
func without[T comparable](l, drop []T) []T {
	var out []T
	for _, x := range l {
		if !slices.Contains(drop, x) {
			out = append(out, x)
		}
	}
	return out
}

// parts yields a beginning with some more elements of a list behind it, in the order of lists if the elements ascend.
func parts[T any](begin, l []T) iter.Seq[[]T] {
	return func(yield func([]T) bool) {
		for i, x := range l {
			part := slices.Concat(begin, []T{x})
			if !yield(part) {
				return
			}
			for longer := range parts(part, l[i+1:]) {
				if !yield(longer) {
					return
				}
			}
		}
	}
}

// fewest returns the shortest part of a list for which a condition holds, of several the first one; an empty part is not tried.
func fewest[T any](l []T, holds func([]T) bool) []T {
	var best []T
	for part := range parts(nil, l) {
		if (best == nil || len(part) < len(best)) && holds(part) {
			best = part
		}
	}
	return best
}
