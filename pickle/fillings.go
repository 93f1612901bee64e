package pickle

import (
	"smalto/api"
)

// set is a set of plates: a bit for each of them.
type set int

// setOf returns the set of some plates.
func setOf(plates ...int) set {
	out := set(0)
	for _, plate := range plates {
		out |= 1 << plate
	}
	return out
}

// fillings is a bath that is filled again and again; well keeps of sets of plates whether they all surely come out good of one filling, in some order.
type fillings struct {
	bath
	well map[set]bool
}

// fillingsOf returns the fillings of a bath, of which nothing is known yet.
func fillingsOf(b api.PickleBath) fillings {
	return fillings{bath{b}, map[set]bool{}}
}

// isWell reports whether some plates, which ascend, all surely come out good of one filling.
func (f fillings) isWell(plates ...int) bool {
	key := setOf(plates...)
	well, known := f.well[key]
	if !known {
		_, well = f.order(plates...)
		f.well[key] = well
	}
	return well
}

// fewest returns the smallest list of the fillings of all plates, of the fewest ones, and whether there is one.
func (f fillings) fewest() ([]int, bool) {
	for many := range len(f.Plates) + 1 {
		// A filling can be well though some of its plates alone are not, as the others weaken the acid for them: only whole lists are judged.
	search:
		for l := range lists(nil, len(f.Plates), many) {
			for filling := range many {
				if !f.isWell(places(l, filling)...) {
					continue search
				}
			}
			return l, true
		}
	}
	return nil, false
}
