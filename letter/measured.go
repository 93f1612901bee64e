package letter

import (
	"slices"

	"smalto/api"
)

// measured is what is known of a word that cannot be read: its gaps, and the length of its plate.
type measured struct {
	box
	gaps   []int
	length api.Span
}

// can returns for each blot of a word the letters that it can be.
func (m measured) can(word []int) [][]int {
	var out [][]int
	for _, at := range blots(word) {
		var letters []int
		for letter := range len(m.Widths) {
			if m.agrees(replaced(word, at, letter)) {
				letters = append(letters, letter)
			}
		}
		out = append(out, letters)
	}
	return out
}

// agrees reports whether the blots of a word can be letters so that it is as long as it was measured.
func (m measured) agrees(word []int) bool {
	at := slices.Index(word, api.LetterBlot)
	if at < 0 {
		return within(m.length.Low, m.length.High, 2*m.Rim+m.long(word, m.gaps))
	}
	for letter := range len(m.Widths) {
		if m.agrees(replaced(word, at, letter)) {
			return true
		}
	}
	return false
}

// blots returns the places of a word whose letters cannot be read.
func blots(word []int) []int {
	var places []int
	for at, letter := range word {
		if letter == api.LetterBlot {
			places = append(places, at)
		}
	}
	return places
}
