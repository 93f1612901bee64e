package sheet

import (
	"slices"

	"smalto/api"
)

// checkSet returns the error of a sheet and plates, or that of a set.
func checkSet(r api.SheetRules, l []api.SheetPlate, set []int) api.Errno {
	if e := Check(r, l); e != api.OK {
		return e
	}
	if !isSet(l, set) {
		return api.ErrForm
	}
	return api.OK
}

// checkCuts returns the error of a sheet and plates, or that of cuts.
func checkCuts(r api.SheetRules, l []api.SheetPlate, cuts []api.SheetCut) api.Errno {
	if e := Check(r, l); e != api.OK {
		return e
	}
	if len(cuts) > api.MaxSheetCuts {
		return api.ErrLong
	}
	for i, c := range cuts {
		pieces := sheetOf(r).after(cuts[:i])
		if !within(0, len(pieces)-1, c.Piece) {
			return api.ErrNone
		}
		one, other := pieces[c.Piece].cut(c.Across, c.At)
		if !one.isPiece() || !other.isPiece() {
			return api.ErrRange
		}
	}
	return api.OK
}

// isSheet reports whether a sheet is valid, and what a cut loses.
func isSheet(r api.SheetRules) bool {
	return areSides(r.Long, r.High) && within(0, api.MaxSheetKerf, r.Kerf)
}

// arePlates reports whether all plates are valid.
func arePlates(l []api.SheetPlate) bool {
	return every(l, func(p api.SheetPlate) bool {
		return areSides(p.Long, p.High) && within(0, api.MaxSheetRim, p.Rim)
	})
}

// areSides reports whether numbers are sides of a sheet, of a plate or of a piece.
func areSides(numbers ...int) bool {
	return within(1, api.MaxSheetSide, numbers...)
}

// isSet reports whether a list is a set of plates.
func isSet(l []api.SheetPlate, set []int) bool {
	return within(0, len(l)-1, set...) && ascends(set)
}

// within reports whether all numbers are from low to high.
func within(low, high int, numbers ...int) bool {
	return every(numbers, func(n int) bool { return low <= n && n <= high })
}

// every reports whether a condition holds for all elements of a list.
func every[T any](l []T, ok func(T) bool) bool {
	return !slices.ContainsFunc(l, func(x T) bool { return !ok(x) })
}
