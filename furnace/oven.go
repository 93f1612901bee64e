package furnace

import (
	"iter"
	"slices"

	"smalto/api"
)

// oven is a furnace with all its notes in one list.
type oven struct {
	api.FurnaceOven
	notes []note
}

// ovenOf returns the oven of a valid furnace.
func ovenOf(o api.FurnaceOven) oven {
	out := oven{FurnaceOven: o}
	for _, c := range o.Cones {
		out.notes = append(out.notes, cone(c))
	}
	for _, s := range o.Signs {
		out.notes = append(out.notes, sign(s))
	}
	return out
}

// without returns the gaps that all notes leave but those with some numbers.
func (o oven) without(drop ...int) gaps {
	g := unknown()
	for place, h := range o.Heats {
		g.lies(place, h)
	}
	for _, p := range o.Pairs {
		g.hold(p.A, p.B, p.Most)
		g.hold(p.B, p.A, p.Most)
	}
	for i, n := range o.notes {
		if !slices.Contains(drop, i) {
			n.mark(&g)
		}
	}
	return g
}

// wrong returns the fewest notes without which there is a truth, of several such lists the smallest one, and whether there is one.
func (o oven) wrong() (numbers []int, ok bool) {
	for size := range len(o.notes) + 1 {
		for drop := range sets(0, len(o.notes), size) {
			if g := o.without(drop...); g.can() {
				return drop, true
			}
		}
	}
	return nil, false
}

// sets yields all lists of so many numbers from low on and below high, ascending, from the smallest list on.
func sets(low, high, size int) iter.Seq[[]int] {
	return func(yield func([]int) bool) {
		if size == 0 {
			yield(nil)
			return
		}
		for first := low; first < high; first++ {
			for rest := range sets(first+1, high, size-1) {
				if !yield(slices.Concat([]int{first}, rest)) {
					return
				}
			}
		}
	}
}
