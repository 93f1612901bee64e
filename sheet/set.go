package sheet

import (
	"smalto/api"
)

// set is a set of plates: a bit for each of them.
type set int

// setOf returns the set of some plates.
func setOf(plates ...int) set {
	out := set(0)
	for _, plate := range plates {
		out |= 1 << plate
	}
	return out
}

// outs are the sets that come out of a piece: of each set, whether it does.
type outs [1 << api.MaxSheetPlates]bool

// joined returns these sets, and those that are parted into two, of which one comes out of one piece, and the other one out of another piece.
func (o outs) joined(one, other outs) outs {
	for a, first := range one {
		if !first {
			continue
		}
		for b, second := range other {
			if second && a&b == 0 {
				o[a|b] = true
			}
		}
	}
	return o
}
