package pickle

import (
	"smalto/api"
)

// bath is a bath as it was filled, or as some plates have left it.
type bath struct {
	api.PickleBath
}

// strengths yields each strength that the acid can have.
func (b bath) strengths(yield func(strength int) bool) {
	for more := range b.Strength.High - b.Strength.Low + 1 {
		if !yield(b.Strength.Low + more) {
			return
		}
	}
}

// of returns the bath with acid of just this strength.
func (b bath) of(strength int) bath {
	b.Strength = api.Span{Low: strength, High: strength}
	return b
}

// after returns the bath as some plates leave it. As truths have all strengths of a span before a plate, they have all of the weaker span after it.
func (b bath) after(plates ...int) bath {
	for _, plate := range plates {
		takes := b.Plates[plate].Takes
		b.Strength = api.Span{Low: max(0, b.Strength.Low-takes), High: max(0, b.Strength.High-takes)}
	}
	return b
}

// ways returns in which ways a step's plate comes out in some truth.
func (b bath) ways(s api.PickleStep) map[api.PickleHow]bool {
	out := map[api.PickleHow]bool{}
	for strength := range b.strengths {
		for how := api.PickleDirty; how <= api.PickleEaten; how++ {
			if !isNone(rustIf(b.Plates[s.Plate], strength*s.Hours, how)) {
				out[how] = true
			}
		}
	}
	return out
}

// rustIf returns the rust of a plate, which has lost so much, if it came out in a way: of all that it can have; none if it cannot have come out so.
func rustIf(p api.PicklePlate, lost int, how api.PickleHow) api.Span {
	out := p.Rust
	switch how {
	case api.PickleDirty:
		out.Low = max(out.Low, lost+1)
	case api.PickleGood:
		out = api.Span{Low: max(out.Low, lost-p.Thin), High: min(out.High, lost)}
	case api.PickleEaten:
		out.High = min(out.High, lost-p.Thin-1)
	}
	return out
}

// isGood reports whether a step's plate comes out good in all truths: rust stays soonest if the acid is weakest and the rust most, and the plate is eaten soonest the other way round.
func (b bath) isGood(s api.PickleStep) bool {
	p := b.Plates[s.Plate]
	return b.Strength.Low*s.Hours >= p.Rust.High && b.Strength.High*s.Hours <= p.Rust.Low+p.Thin
}

// hours returns for how long a plate lies so that it surely comes out good, and whether there are such hours. All hours between two of them are such hours too.
func (b bath) hours(plate int) (hours api.Span, ok bool) {
	return ends(1, api.MaxPickleHours, func(h int) bool { return b.isGood(api.PickleStep{Plate: plate, Hours: h}) })
}

// steps returns steps for plates in their order, each with the least hours by which it surely comes out good, and all hours together; ok is false if there are none.
func (b bath) steps(order ...int) (l []api.PickleStep, all int, ok bool) {
	for _, plate := range order {
		hours, ok := b.hours(plate)
		if !ok {
			return nil, 0, false
		}
		l = append(l, api.PickleStep{Plate: plate, Hours: hours.Low})
		all += hours.Low
		b = b.after(plate)
	}
	return l, all, true
}

// order returns the steps with the fewest hours for some plates that ascend, of several orders those in the smallest one, and whether there are any.
func (b bath) order(plates ...int) (best []api.PickleStep, ok bool) {
	fewest := 0
	for order := range orders(nil, plates) {
		steps, all, goes := b.steps(order...)
		if goes && (!ok || all < fewest) {
			best, fewest, ok = steps, all, true
		}
	}
	return best, ok
}
