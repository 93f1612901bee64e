package furnace

import (
	"slices"

	"smalto/api"
)

// arePairs reports whether all pairs of a furnace are of two of its places.
func arePairs(o api.FurnaceOven) bool {
	return every(o.Pairs, func(p api.FurnacePair) bool {
		return arePlaces(o, p.A, p.B) && p.A != p.B && within(0, api.MaxFurnaceHeat, p.Most)
	})
}

// areCones reports whether all cones of a furnace are valid.
func areCones(o api.FurnaceOven) bool {
	return every(o.Cones, func(c api.FurnaceCone) bool {
		return arePlaces(o, c.Place) && within(1, api.MaxFurnaceHeat, c.Bends)
	})
}

// areSigns reports whether all signs of a furnace are valid.
func areSigns(o api.FurnaceOven) bool {
	return every(o.Signs, func(s api.FurnaceSign) bool {
		return arePlaces(o, s.Place) && isWare(s.Ware) && within(int(api.FurnaceDull), int(api.FurnaceRan), int(s.How))
	})
}

// areSets reports whether all wares of a list are valid, and put at places of a furnace.
func areSets(o api.FurnaceOven, l []api.FurnaceSet) bool {
	return every(l, func(s api.FurnaceSet) bool { return arePlaces(o, s.Place) && isWare(s.Ware) })
}

// arePlaces reports whether numbers are places of a furnace.
func arePlaces(o api.FurnaceOven, numbers ...int) bool {
	return within(0, len(o.Heats)-1, numbers...)
}

// isWare reports whether a ware is valid.
func isWare(w api.FurnaceWare) bool {
	return within(0, api.MaxFurnaceHeat, w.Fires, w.Runs) && w.Fires < w.Runs
}

// isSpan reports whether heats are valid.
func isSpan(s api.Span) bool {
	return within(0, api.MaxFurnaceHeat, s.Low, s.High) && s.Low <= s.High
}

// within reports whether all numbers are from low to high.
func within(low, high int, numbers ...int) bool {
	return every(numbers, func(n int) bool { return low <= n && n <= high })
}

// every reports whether a condition holds for all elements of a list.
func every[T any](l []T, ok func(T) bool) bool {
	return !slices.ContainsFunc(l, func(x T) bool { return !ok(x) })
}
