package letter

import (
	"slices"

	"smalto/api"
)

// box is a case; more keeps of each pair of letters how much wider the gap between them looks than it is.
type box struct {
	api.LetterCase
	more map[[2]int]int
}

// boxOf returns the box of a case.
func boxOf(c api.LetterCase) box {
	b := box{c, map[[2]int]int{}}
	for _, p := range c.Pairs {
		b.more[[2]int{p.A, p.B}] = p.More
	}
	return b
}

// mores returns how much wider each gap of a word looks than it is.
func (b box) mores(word []int) []int {
	var out []int
	for i := range len(word) - 1 {
		out = append(out, b.more[[2]int(word[i:i+2:i+2])])
	}
	return out
}

// looks returns how wide gaps of a word look.
func (b box) looks(word, gaps []int) []int {
	out := b.mores(word)
	for i, gap := range gaps {
		out[i] += gap
	}
	return out
}

// closest returns the closest gaps of a word.
func (b box) closest(word []int) []int {
	out := b.mores(word)
	for i, more := range out {
		out[i] = max(b.Least-more, 0)
	}
	return out
}

// long returns how long a word with some gaps is.
func (b box) long(word, gaps []int) int {
	out := sum(gaps...)
	for _, letter := range word {
		out += b.Widths[letter]
	}
	return out
}

// need returns how long a plate must be on which words lie in one line: for a single word, what it needs.
func (b box) need(words ...[]int) int {
	out := 2*b.Rim + (len(words)-1)*b.Blank
	for _, word := range words {
		out += b.long(word, b.closest(word))
	}
	return out
}

// goes reports whether a word goes on a plate of a length.
func (b box) goes(word []int, length int) bool {
	return b.need(word) <= length
}

// left returns the fewest places of letters without which a word goes, of several such lists the smallest one, and whether there is one.
func (b box) left(word []int, length int) (places []int, ok bool) {
	return fewest(word, func(rest []int) bool { return len(rest) > 0 && b.goes(rest, length) })
}

// widest returns how wide a letter without pairs can be, at a place of a word, so that the word goes; less than 1 if it can have no width.
func (b box) widest(word []int, at, length int) int {
	other := len(b.Widths)
	b.Widths = with(b.Widths, 0)
	needs := b.need(replaced(word, at, other))
	return min(length-needs, api.MaxLetterWidth)
}

// wrong returns the fewest gaps without which all others look alike up to most, of several such lists the smallest one.
func (b box) wrong(word, gaps []int, most int) []int {
	numbers, _ := fewest(b.looks(word, gaps), func(looks []int) bool { return spreadOf(looks...) <= most })
	return numbers
}

// spreadOf returns by how much the greatest number exceeds the least one.
func spreadOf(numbers ...int) int {
	if len(numbers) == 0 {
		return 0
	}
	return slices.Max(numbers) - slices.Min(numbers)
}
