package stencil

import (
	"slices"

	"smalto/api"
)

// checkSign returns the error of an alphabet, or that of a word and a sign that is as long.
func checkSign(s api.StencilSet, word, sign []int) api.Errno {
	if e := Check(s); e != api.OK {
		return e
	}
	if !isWord(s, word) || !isSign(s, sign) || len(word) != len(sign) {
		return api.ErrForm
	}
	return api.OK
}

// checkMeant returns the error of an alphabet, or that of words, a sign and the most faults.
func checkMeant(s api.StencilSet, words [][]int, sign []int, most int) api.Errno {
	if e := Check(s); e != api.OK {
		return e
	}
	switch {
	case len(words) > api.MaxStencilWords:
		return api.ErrLong
	case !areWords(s, words...) || !isSign(s, sign):
		return api.ErrForm
	case !within(0, api.MaxStencilFaults, most):
		return api.ErrRange
	}
	return api.OK
}

// checkStock returns the error of an alphabet, or that of a case and words that are laid.
func checkStock(s api.StencilSet, count []int, words ...[]int) api.Errno {
	if e := Check(s); e != api.OK {
		return e
	}
	switch {
	case len(words) > api.MaxStencilWords:
		return api.ErrLong
	case !isCount(s, api.MaxStencilCount, count) || !areWords(s, words...):
		return api.ErrForm
	}
	return api.OK
}

// checkHeap returns the error of an alphabet, or that of cases, a heap and how many stencils are lost.
func checkHeap(s api.StencilSet, cases [][]int, heap []int, lost int) api.Errno {
	if e := Check(s); e != api.OK {
		return e
	}
	switch {
	case len(cases) > api.MaxStencilCases:
		return api.ErrLong
	case !every(cases, func(c []int) bool { return isCount(s, api.MaxStencilCount, c) }) || !isCount(s, api.MaxStencilLost, heap):
		return api.ErrForm
	case !within(0, api.MaxStencilLost, lost):
		return api.ErrRange
	}
	return api.OK
}

// arePairs reports whether all pairs are of letters that there are.
func arePairs(s api.StencilSet, pairs ...api.StencilPair) bool {
	return every(pairs, func(p api.StencilPair) bool { return within(0, s.Letters-1, p.A, p.B) })
}

// areApart reports whether no letter is in two pairs.
func areApart(pairs ...api.StencilPair) bool {
	for i, p := range pairs {
		if slices.ContainsFunc(pairs[:i], func(o api.StencilPair) bool { return has(o, p.A) || has(o, p.B) }) {
			return false
		}
	}
	return true
}

// has reports whether a pair has a letter.
func has(p api.StencilPair, letter int) bool {
	return p.A == letter || p.B == letter
}

// isSame reports whether a pair is one letter twice.
func isSame(p api.StencilPair) bool {
	return p.A == p.B
}

// areWords reports whether all words are valid.
func areWords(s api.StencilSet, words ...[]int) bool {
	return every(words, func(word []int) bool { return isWord(s, word) })
}

// isWord reports whether a word is valid.
func isWord(s api.StencilSet, word []int) bool {
	return within(1, api.MaxStencilWord, len(word)) && within(0, s.Letters-1, word...)
}

// isSign reports whether a sign is valid, which has letters that read as none too.
func isSign(s api.StencilSet, sign []int) bool {
	return within(1, api.MaxStencilWord, len(sign)) && within(api.StencilUnread, s.Letters-1, sign...)
}

// isCount reports whether a count is one of all letters, of at most so many stencils each.
func isCount(s api.StencilSet, most int, count []int) bool {
	return len(count) == s.Letters && within(0, most, count...)
}

// within reports whether all numbers are from low to high.
func within(low, high int, numbers ...int) bool {
	return every(numbers, func(n int) bool { return low <= n && n <= high })
}

// every reports whether a condition holds for all elements of a list.
func every[T any](l []T, ok func(T) bool) bool {
	return !slices.ContainsFunc(l, func(x T) bool { return !ok(x) })
}
