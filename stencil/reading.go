package stencil

import (
	"smalto/api"
)

// reading is a sign, as it is read.
type reading struct {
	alphabet
	sign []int
}

// ways returns for each place of a word, which is as long as the sign, the kinds that explain it.
func (r reading) ways(word []int) [][]api.StencilKind {
	var out [][]api.StencilKind
	for place, letter := range word {
		var kinds []api.StencilKind
		for kind := api.StencilRight; kind <= api.StencilBoth; kind++ {
			if len(r.laid(letter, kind, r.sign[place])) > 0 {
				kinds = append(kinds, kind)
			}
		}
		out = append(out, kinds)
	}
	return out
}

// fewest returns for each place of a word a kind that explains it, with the fewest faults in all, and whether there are such kinds. No kind has fewer faults than those before it, so that the first ones are the best.
func (r reading) fewest(word []int) (out []api.StencilKind, ok bool) {
	for _, kinds := range r.ways(word) {
		if len(kinds) == 0 {
			return nil, false
		}
		out = append(out, kinds[0])
	}
	return out, true
}

// guess is a sign by which one of some words was meant, with at most so many faults.
type guess struct {
	reading
	words [][]int
	most  int
}

// meant returns the numbers of the words that can have been meant.
func (g guess) meant() []int {
	var out []int
	for n, word := range g.words {
		if len(word) != len(g.sign) {
			continue
		}
		if kinds, ok := g.fewest(word); ok && faultsOf(kinds...) <= g.most {
			out = append(out, n)
		}
	}
	return out
}

// lies returns the letters of which a stencil can lie at a place if a word was meant: a letter stands there twice if two kinds lay it.
func (g guess) lies(word []int, place int) []int {
	kinds, _ := g.fewest(word)
	others := faultsOf(kinds...) - faultsOf(kinds[place])
	var out []int
	for kind := api.StencilRight; kind <= api.StencilBoth; kind++ {
		if others+faultsOf(kind) <= g.most {
			out = append(out, g.laid(word[place], kind, g.sign[place])...)
		}
	}
	return out
}

// left returns how many of some words are left at most, whichever letter is learned to lie at a place.
func (g guess) left(place int, words ...int) int {
	many := map[int]int{}
	for _, n := range words {
		for _, letter := range unique(g.lies(g.words[n], place)) {
			many[letter]++
		}
	}
	most := 0
	for _, words := range many {
		most = max(most, words)
	}
	return most
}

// best returns the place by which the fewest of some words are left at most, the first one of several, and how many are left.
func (g guess) best(words ...int) (place, left int) {
	left = len(words)
	for p := range len(g.sign) {
		if many := g.left(p, words...); many < left {
			place, left = p, many
		}
	}
	return place, left
}
