package sheet

// smallest returns the smallest list that begins so, of so many numbers from low to high, of which each beginning goes, and whether there is one.
func smallest(begin []int, many, low, high int, goes func(begin []int) bool) (l []int, ok bool) {
	if len(begin) == many {
		return begin, true
	}
	for i := range high - low + 1 {
		next := with(begin, low+i)
		if !goes(next) {
			continue
		}
		if l, ok = smallest(next, many, low, high, goes); ok {
			return l, true
		}
	}
	return nil, false
}

// with returns a list with one number more behind it: in new memory, so that lists which begin alike do not write over each other.
func with(l []int, n int) []int {
	return append(l[:len(l):len(l)], n)
}

// ascends reports whether each number of a list is greater than the one before.
func ascends(l []int) bool {
	for i := range len(l) - 1 {
		if l[i] >= l[i+1] {
			return false
		}
	}
	return true
}

// count returns how often a list has a number.
func count(l []int, n int) int {
	out := 0
	for _, x := range l {
		if x == n {
			out++
		}
	}
	return out
}
