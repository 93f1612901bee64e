package sheet

import (
	"smalto/api"
)

// blank is how large a plate is before it is bent, and whether it may be turned.
type blank struct {
	api.SheetSize
	turns bool
}

// blankOf returns the blank of a plate.
func blankOf(p api.SheetPlate) blank {
	return blank{api.SheetSize{Long: p.Long + 2*p.Rim, High: p.High + 2*p.Rim}, !p.Grain}
}

// goes reports whether a plate is taken out of a piece.
func (b blank) goes(p piece) bool {
	return b.lies(p) || b.turns && b.turned().lies(p)
}

// lies reports whether a blank is neither longer nor higher than a piece.
func (b blank) lies(p piece) bool {
	return b.Long <= p.Long && b.High <= p.High
}

// turned returns a blank that was turned.
func (b blank) turned() blank {
	b.Long, b.High = b.High, b.Long
	return b
}

// covers returns how many square inches a size covers.
func covers(s api.SheetSize) int {
	return s.Long * s.High
}
