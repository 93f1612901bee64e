package stencil

import (
	"slices"

	"smalto/api"
)

// alphabet is letters, with how each of them reads on its head, and the pairs of those that are taken for each other, both ways round.
type alphabet struct {
	api.StencilSet
	heads [api.MaxStencilLetters]int
	alike map[api.StencilPair]bool
}

// alphabetOf returns the alphabet of a set of letters.
func alphabetOf(s api.StencilSet) alphabet {
	a := alphabet{StencilSet: s, alike: map[api.StencilPair]bool{}}
	for letter := range api.MaxStencilLetters {
		a.heads[letter] = api.StencilUnread
	}
	for _, p := range s.Heads {
		a.heads[p.A], a.heads[p.B] = p.B, p.A
	}
	for _, p := range s.Alike {
		a.alike[p], a.alike[api.StencilPair{A: p.B, B: p.A}] = true, true
	}
	return a
}

// laid returns the letters of which a stencil that was laid for a letter of a word, by a kind, reads as what is read.
func (a alphabet) laid(letter int, kind api.StencilKind, read int) []int {
	var out []int
	for stencil := range a.Letters {
		if a.isFor(letter, kind, stencil) && a.reads(kind, stencil) == read {
			out = append(out, stencil)
		}
	}
	return out
}

// isFor reports whether a kind lays a stencil for a letter of a word.
func (a alphabet) isFor(letter int, kind api.StencilKind, stencil int) bool {
	if kind == api.StencilTaken || kind == api.StencilBoth {
		return a.alike[api.StencilPair{A: letter, B: stencil}]
	}
	return stencil == letter
}

// reads returns what a stencil reads as that a kind lays.
func (a alphabet) reads(kind api.StencilKind, stencil int) int {
	if kind == api.StencilTurned || kind == api.StencilBoth {
		return a.heads[stencil]
	}
	return stencil
}

// turns returns the letters whose stencils read as a letter, upright or on their heads: ascending.
func (a alphabet) turns(letter int) []int {
	head := a.heads[letter]
	if head == api.StencilUnread || head == letter {
		return []int{letter}
	}
	return slices.Sorted(slices.Values([]int{letter, head}))
}

// faultsOf returns how many faults kinds are in all.
func faultsOf(kinds ...api.StencilKind) int {
	faults := 0
	for _, kind := range kinds {
		switch kind {
		case api.StencilBoth:
			// It is a fault more than each of those of which it is both.
			faults++
			fallthrough
		case api.StencilTurned, api.StencilTaken:
			faults++
		}
	}
	return faults
}
