package letter

import (
	"slices"

	"smalto/api"
)

// checkWord returns the error of a case, or that of a word.
func checkWord(c api.LetterCase, word []int) api.Errno {
	if e := Check(c); e != api.OK {
		return e
	}
	if !isWord(c, word) {
		return api.ErrForm
	}
	return api.OK
}

// checkGaps returns the error of a case, or that of a word or its gaps.
func checkGaps(c api.LetterCase, word, gaps []int) api.Errno {
	if e := checkWord(c, word); e != api.OK {
		return e
	}
	if !areGaps(word, gaps) {
		return api.ErrForm
	}
	return api.OK
}

// checkLength returns the error of a case, or that of a word or the length of its plate.
func checkLength(c api.LetterCase, word []int, length int) api.Errno {
	if e := checkWord(c, word); e != api.OK {
		return e
	}
	if !areLengths(length) {
		return api.ErrRange
	}
	return api.OK
}

// checkLines returns the error of a case, or that of words or the length of their lines.
func checkLines(c api.LetterCase, words [][]int, length int) api.Errno {
	e := Check(c)
	switch {
	case e != api.OK:
		return e
	case len(words) == 0:
		return api.ErrNone
	case len(words) > api.MaxLetterWords:
		return api.ErrLong
	case !areWords(c, words):
		return api.ErrForm
	case !areLengths(length):
		return api.ErrRange
	}
	return api.OK
}

// checkPlates returns the error of a case, or that of words or plates.
func checkPlates(c api.LetterCase, words [][]int, plates []int) api.Errno {
	e := Check(c)
	switch {
	case e != api.OK:
		return e
	case len(words) > api.MaxLetterWords || len(plates) > api.MaxLetterPlates:
		return api.ErrLong
	case !areWords(c, words):
		return api.ErrForm
	case !areLengths(plates...):
		return api.ErrRange
	}
	return api.OK
}

// checkMeasured returns the error of a case, or that of a word with blots, its gaps or the lengths of its plate.
func checkMeasured(c api.LetterCase, word, gaps []int, length api.Span) api.Errno {
	e := Check(c)
	switch {
	case e != api.OK:
		return e
	case !isBlotted(c, word) || !areGaps(word, gaps):
		return api.ErrForm
	case len(blots(word)) > api.MaxLetterBlots:
		return api.ErrFull
	case !areLengths(length.Low, length.High) || length.Low > length.High:
		return api.ErrRange
	}
	return api.OK
}

// isCase reports whether the letters of a case are valid, and what must be free.
func isCase(c api.LetterCase) bool {
	return within(1, api.MaxLetters, len(c.Widths)) && within(1, api.MaxLetterWidth, c.Widths...) &&
		within(0, api.MaxLetterRim, c.Rim) && within(0, api.MaxLetterLeast, c.Least) && within(0, api.MaxLetterWidth, c.Blank)
}

// arePairs reports whether all pairs of a case are valid.
func arePairs(c api.LetterCase) bool {
	return every(c.Pairs, func(p api.LetterPair) bool {
		return areLetters(c, p.A, p.B) && within(-api.MaxLetterMore, api.MaxLetterMore, p.More)
	})
}

// areWords reports whether all lists are words.
func areWords(c api.LetterCase, words [][]int) bool {
	return every(words, func(word []int) bool { return isWord(c, word) })
}

// isWord reports whether a list is a word.
func isWord(c api.LetterCase, word []int) bool {
	return within(1, api.MaxLetterWord, len(word)) && areLetters(c, word...)
}

// isBlotted reports whether a list is a word, of which any letters may be blots.
func isBlotted(c api.LetterCase, word []int) bool {
	return within(1, api.MaxLetterWord, len(word)) &&
		every(word, func(letter int) bool { return letter == api.LetterBlot || areLetters(c, letter) })
}

// areLetters reports whether numbers are letters of a case.
func areLetters(c api.LetterCase, numbers ...int) bool {
	return within(0, len(c.Widths)-1, numbers...)
}

// areGaps reports whether a list is gaps of a word.
func areGaps(word, gaps []int) bool {
	return len(gaps) == len(word)-1 && within(0, api.MaxLetterLength, gaps...)
}

// areLengths reports whether numbers are lengths of plates.
func areLengths(numbers ...int) bool {
	return within(1, api.MaxLetterLength, numbers...)
}

// within reports whether all numbers are from low to high.
func within(low, high int, numbers ...int) bool {
	return every(numbers, func(n int) bool { return low <= n && n <= high })
}

// every reports whether a condition holds for all elements of a list.
func every[T any](l []T, ok func(T) bool) bool {
	return !slices.ContainsFunc(l, func(x T) bool { return !ok(x) })
}
