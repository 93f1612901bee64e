package sheet

import (
	"slices"

	"smalto/api"
)

// untaken is the piece of a plate that is not taken.
const untaken = -1

// works is a sheet, and the blanks of plates; known keeps of each piece which sets come out of it.
type works struct {
	sheet  piece
	blanks []blank
	known  map[piece]outs
}

// worksOf returns the works of a sheet and plates.
func worksOf(r api.SheetRules, l []api.SheetPlate) works {
	w := works{sheetOf(r), nil, map[piece]outs{}}
	for _, p := range l {
		w.blanks = append(w.blanks, blankOf(p))
	}
	return w
}

// comes reports whether a set comes out of a piece.
func (w works) comes(plates set, p piece) bool {
	return w.outs(p)[plates]
}

// outs returns which sets come out of a piece.
func (w works) outs(p piece) outs {
	if out, ok := w.known[p]; ok {
		return out
	}
	out, all := w.single(p)
	for one, other := range p.cuts() {
		// A plate that is not taken out of the whole piece comes out of no cut of it: there are no other sets than those of all.
		if out[all] {
			break
		}
		out = out.joined(w.outs(one), w.outs(other))
	}
	w.known[p] = out
	return out
}

// single returns the sets that come out of a piece without a cut, and the set of all plates each of which is taken out of it.
func (w works) single(p piece) (out outs, all set) {
	out[setOf()] = true
	for plate, b := range w.blanks {
		if b.goes(p) {
			out[setOf(plate)] = true
			all |= setOf(plate)
		}
	}
	return out, all
}

// strip returns how long, or how high, the strip is at most that is cut off first, so that a set comes out of the other piece; 0 if there is no such cut.
func (w works) strip(plates set, across bool) int {
	out := 0
	for at := range max(w.sheet.Long, w.sheet.High) {
		strip, other := w.sheet.cut(across, at)
		if strip.isPiece() && other.isPiece() && w.comes(plates, other) {
			out = at
		}
	}
	return out
}

// most returns the most plates that come out of a piece, of several such lists the smallest one.
func (w works) most(p piece) []int {
	for size := len(w.blanks); size > 0; size-- {
		l, ok := smallest(nil, size, 0, len(w.blanks)-1, func(begin []int) bool {
			return ascends(begin) && w.comes(setOf(begin...), p)
		})
		if ok {
			return l
		}
	}
	return nil
}

// sheets returns the smallest list of the sheets of all plates, of the fewest ones, and whether there is one.
func (w works) sheets() (l []int, ok bool) {
	for many := range len(w.blanks) + 1 {
		l, ok := smallest(nil, len(w.blanks), 0, many-1, func(begin []int) bool {
			return w.comes(held(begin)[begin[len(begin)-1]], w.sheet)
		})
		if ok {
			return l, true
		}
	}
	return nil, false
}

// held returns the set of each sheet, by the sheets of the first plates.
func held(sheets []int) (out [api.MaxSheetPlates]set) {
	for plate, sheet := range sheets {
		out[sheet] |= setOf(plate)
	}
	return out
}

// bound returns how many sheets cover as much as all blanks do.
func (w works) bound() int {
	all := 0
	for _, b := range w.blanks {
		all += covers(b.SheetSize)
	}
	one := covers(w.sheet.SheetSize)
	return (all + one - 1) / one
}

// takes returns out of which of the pieces after some cuts each plate is taken, or untaken: of the lists with the fewest of these the smallest one.
func (w works) takes(cuts []api.SheetCut) []int {
	pieces := w.sheet.after(cuts)
	for most := range len(w.blanks) + 1 {
		l, ok := smallest(nil, len(w.blanks), untaken, len(pieces)-1, func(begin []int) bool {
			before, at := begin[:len(begin)-1], begin[len(begin)-1]
			if at == untaken {
				return count(begin, untaken) <= most
			}
			return !slices.Contains(before, at) && w.blanks[len(before)].goes(pieces[at])
		})
		if ok {
			return l
		}
	}
	return nil
}

// taken returns how many plates can be taken after some cuts.
func (w works) taken(cuts []api.SheetCut) int {
	return len(w.blanks) - count(w.takes(cuts), untaken)
}

// spoiled returns the cuts after each of which fewer plates can be taken than before it.
func (w works) spoiled(cuts []api.SheetCut) []int {
	var out []int
	for i := range cuts {
		if w.taken(cuts[:i+1]) < w.taken(cuts[:i]) {
			out = append(out, i)
		}
	}
	return out
}
