package letter

import (
	"slices"

	"smalto/api"
)

// lay returns the gaps with which a word that goes is laid on a plate of a length, and their spread.
func (b box) lay(word []int, length int) (gaps []int, spread int) {
	if len(word) == 1 {
		return nil, 0
	}
	room := length - 2*b.Rim - b.long(word, nil)
	for spread := range beyondLooks(room) {
		if gaps, ok := b.alike(word, spread, room); ok {
			return gaps, spread
		}
	}
	return nil, 0
}

// alike returns the smallest list of gaps that look alike up to a spread, and take all the room, and whether there is one.
func (b box) alike(word []int, spread, room int) (best []int, ok bool) {
	for low := range beyondLooks(room) {
		gaps, found := b.between(word, api.Span{Low: low, High: low + spread}, room)
		if found && (!ok || slices.Compare(gaps, best) < 0) {
			best, ok = gaps, true
		}
	}
	return best, ok
}

// between returns the smallest list of gaps whose looks lie in a span, and which take all the room, and whether there is one: beyond the least that each gap must be, the last gaps take as much as they can, so that the first ones are small.
func (b box) between(word []int, looks api.Span, room int) ([]int, bool) {
	gaps, mores := b.closest(word), b.mores(word)
	for i, more := range mores {
		gaps[i] = max(gaps[i], looks.Low-more)
	}
	room -= sum(gaps...)
	for i, more := range slices.Backward(mores) {
		wider := min(room, looks.High-more-gaps[i])
		if wider < 0 {
			return nil, false
		}
		gaps[i] += wider
		room -= wider
	}
	return gaps, room == 0
}

// beyondLooks returns how wide no gap can look, as it is no wider than all the room.
func beyondLooks(room int) int {
	return room + api.MaxLetterMore + 1
}
