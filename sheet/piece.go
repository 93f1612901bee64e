package sheet

import (
	"iter"

	"smalto/api"
)

// piece is a piece of iron; kerf is what each cut of it loses.
type piece struct {
	api.SheetSize
	kerf int
}

// pieceOf returns a piece of a size.
func pieceOf(size api.SheetSize, kerf int) piece {
	return piece{size, kerf}
}

// sheetOf returns the piece that a sheet is at first.
func sheetOf(r api.SheetRules) piece {
	return pieceOf(api.SheetSize{Long: r.Long, High: r.High}, r.Kerf)
}

// cut returns what a cut of a piece leaves.
func (p piece) cut(across bool, at int) (one, other piece) {
	one, other = p, p
	if across {
		one.High, other.High = at, p.High-at-p.kerf
	} else {
		one.Long, other.Long = at, p.Long-at-p.kerf
	}
	return one, other
}

// isPiece reports whether what a cut leaves is a piece.
func (p piece) isPiece() bool {
	return p.Long >= 1 && p.High >= 1
}

// cuts yields the two pieces that each cut of a piece leaves, in one order of them at least.
func (p piece) cuts() iter.Seq2[piece, piece] {
	return func(yield func(one, other piece) bool) {
		// A cut behind the middle leaves what one before it does.
		for at := range max(p.Long, p.High)/2 + 1 {
			for _, across := range []bool{false, true} {
				one, other := p.cut(across, at)
				if one.isPiece() && other.isPiece() && !yield(one, other) {
					return
				}
			}
		}
	}
}

// after returns the pieces after some cuts, each of which can be made.
func (p piece) after(cuts []api.SheetCut) []piece {
	out := []piece{p}
	for _, c := range cuts {
		one, other := out[c.Piece].cut(c.Across, c.At)
		out[c.Piece] = one
		out = append(out, other)
	}
	return out
}
