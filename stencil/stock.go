package stencil

import (
	"slices"

	"smalto/api"
)

// stock is how many stencils of each letter there are.
type stock struct {
	alphabet
	count []int
}

// stockOf returns the stock of a case.
func stockOf(s api.StencilSet, count []int) stock {
	return stock{alphabetOf(s), count}
}

// lay returns the smallest list of stencils that are laid for the letters of a word, and whether there is one. Where two letters read as each other on their heads, stencils of both are laid for the same letters: whichever is laid first, as many are left for the others.
func (s stock) lay(word ...int) (out []int, ok bool) {
	left := s.copied()
	for _, letter := range word {
		stencil, ok := left.take(letter)
		if !ok {
			return nil, false
		}
		out = append(out, stencil)
	}
	return out, true
}

// lack returns the fewest places of a word without which the others can be laid, the smallest list. Those that are laid last are without stencils, so the last places are laid first.
func (s stock) lack(word ...int) []int {
	left := s.copied()
	var out []int
	for place, letter := range slices.Backward(word) {
		if _, ok := left.take(letter); !ok {
			out = append(out, place)
		}
	}
	slices.Reverse(out)
	return out
}

// cut returns how many stencils of each letter are cut so that each of some words can be laid. Of two letters that read as each other on their heads the last one is cut, as the list is the smallest one then.
func (s stock) cut(words ...[]int) []int {
	out := make([]int, s.Letters)
	for _, word := range words {
		lacks := make([]int, s.Letters)
		for _, place := range s.lack(word...) {
			lacks[slices.Max(s.turns(word[place]))]++
		}
		for letter := range s.Letters {
			out[letter] = max(out[letter], lacks[letter])
		}
	}
	return out
}

// copied returns the stock with a count of its own, from which stencils can be taken.
func (s stock) copied() stock {
	s.count = slices.Clone(s.count)
	return s
}

// take takes a stencil that reads as a letter, of the first letter of which there is one, and returns this letter, and whether there is one.
func (s stock) take(letter int) (stencil int, ok bool) {
	for _, stencil := range s.turns(letter) {
		if s.count[stencil] > 0 {
			s.count[stencil]--
			return stencil, true
		}
	}
	return 0, false
}
