package pickle

import (
	"slices"

	"smalto/api"
)

// told is a bath, and what was seen of one filling of it.
type told struct {
	bath
	seen []api.PickleSeen
}

// rusts returns the rust of all plates if they came out as was seen of acid of a strength: none for a plate that cannot have come out so.
func (t told) rusts(strength int) []api.Span {
	var out []api.Span
	for plate := range len(t.Plates) {
		out = append(out, t.Plates[plate].Rust)
	}
	b := t.of(strength)
	for _, s := range t.seen {
		plate := s.Step.Plate
		out[plate] = rustIf(b.Plates[plate], b.Strength.Low*s.Step.Hours, s.How)
		b = b.after(plate)
	}
	return out
}

// was returns the strength and the rust of all plates, over all truths in which they came out as was seen, and whether there is one.
func (t told) was() (strength api.Span, rusts []api.Span, ok bool) {
	for s := range t.strengths {
		now, next := t.of(s).Strength, t.rusts(s)
		if slices.ContainsFunc(next, isNone) {
			continue
		}
		if !ok {
			strength, rusts, ok = now, next, true
		}
		strength = joined(strength, now)
		for plate := range len(rusts) {
			rusts[plate] = joined(rusts[plate], next[plate])
		}
	}
	return strength, rusts, ok
}

// wrong returns the fewest things seen that are wrong by one of the strengths, of several such lists the smallest one.
func (t told) wrong() []int {
	best := numbers(len(t.seen))
	for s := range t.strengths {
		l := t.wrongBy(s)
		if len(l) < len(best) || len(l) == len(best) && slices.Compare(l, best) < 0 {
			best = l
		}
	}
	return best
}

// wrongBy returns the things seen that are wrong, whatever the rust is, if the acid was of this strength.
func (t told) wrongBy(strength int) []int {
	rusts := t.rusts(strength)
	var out []int
	for i, s := range t.seen {
		if isNone(rusts[s.Step.Plate]) {
			out = append(out, i)
		}
	}
	return out
}
