package fork

import "iter"

// with returns a list with one number more behind it: in new memory, so that lists which begin alike do not write over each other, nor into the spare room of an argument.
func with(l []int, number int) []int {
	return append(l[:len(l):len(l)], number)
}

// parts yields all lists of so many numbers of a list, in its order: from the smallest one on, if it ascends.
func parts(l []int, size int) iter.Seq[[]int] {
	return func(yield func([]int) bool) { longerParts(nil, l, size, yield) }
}

// longerParts yields the lists that begin so, and go on with so many numbers of a list; it reports whether more are wanted.
func longerParts(begin, l []int, size int, yield func([]int) bool) bool {
	if size == 0 {
		return yield(begin)
	}
	for i, number := range l {
		if !longerParts(with(begin, number), l[i+1:], size-1, yield) {
			return false
		}
	}
	return true
}

// greatest returns the greatest number of a list, or -1 if all are less.
func greatest(l []int) int {
	out := -1
	for _, number := range l {
		out = max(out, number)
	}
	return out
}

// differ returns how many numbers of a list are others than those of a list that is as long, or longer.
func differ(l, than []int) int {
	many := 0
	for i, number := range l {
		if number != than[i] {
			many++
		}
	}
	return many
}
