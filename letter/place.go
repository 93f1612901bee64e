package letter

import (
	"iter"
	"slices"
)

// lines returns with which words lines of a length begin: the fewest ones, of several such lists the one with the least greatest rest, of several of these the smallest one; this rest; and whether there is such a list.
func (b box) lines(words [][]int, length int) (best []int, rest int, ok bool) {
	for begins := range breaks(len(words)) {
		if ok && len(begins) > len(best) {
			break
		}
		least, greatest := b.rests(words, begins, length)
		if least >= 0 && (!ok || greatest < rest) {
			best, rest, ok = begins, greatest, true
		}
	}
	return best, rest, ok
}

// breaks yields all ways to break so many words into lines, as the numbers of the words with which lines begin: those with the fewest lines first, and of these the smallest list.
func breaks(words int) iter.Seq[[]int] {
	return func(yield func([]int) bool) {
		for more := range words {
			for later := range sets(numbers(1, words-1), more) {
				if !yield(slices.Concat([]int{0}, later)) {
					return
				}
			}
		}
	}
}

// rests returns the least rest of lines that begin with some words, which is below 0 if a line is too long, and the greatest one.
func (b box) rests(words [][]int, begins []int, length int) (least, greatest int) {
	var rests []int
	ends := with(begins[1:], len(words))
	for i, begin := range begins {
		rests = append(rests, length-b.need(words[begin:ends[i]]...))
	}
	return slices.Min(rests), slices.Max(rests)
}

// pick returns plates for all words that are the shortest ones together, of several such lists the smallest one, and whether there is one.
func (b box) pick(words [][]int, plates []int) (best []int, ok bool) {
	least := 0
	for pick := range b.picks(nil, words, plates) {
		length := 0
		for _, plate := range pick {
			length += plates[plate]
		}
		if !ok || length < least {
			best, least, ok = pick, length, true
		}
	}
	return best, ok
}

// picks yields the lists of plates that begin so, and go on with one for each other word on which it goes, no plate twice: from the smallest one on.
func (b box) picks(begin []int, words [][]int, plates []int) iter.Seq[[]int] {
	return func(yield func([]int) bool) {
		if len(begin) == len(words) {
			yield(begin)
			return
		}
		for plate, length := range plates {
			if slices.Contains(begin, plate) || !b.goes(words[len(begin)], length) {
				continue
			}
			for pick := range b.picks(with(begin, plate), words, plates) {
				if !yield(pick) {
					return
				}
			}
		}
	}
}
