package colour

import (
	"slices"

	"smalto/api"
)

// fired is a plan of a set's colours.
type fired struct {
	api.ColourSet
	plan [][]int
}

// heatsOf returns the heats of all colours.
func heatsOf(s api.ColourSet) []api.Span {
	return mapped(s.Paints, func(p api.ColourPaint) api.Span { return p.Heat })
}

// stretchesOf returns the stretches of all colours.
func stretchesOf(s api.ColourSet) []api.Span {
	return mapped(s.Paints, func(p api.ColourPaint) api.Span { return p.Stretch })
}

// heatTies yields what must hold of heats.
func (f fired) heatTies(yield func(tie) bool) {
	for i, round := range f.plan {
		for _, c := range round {
			for _, other := range round {
				if c != other && !yield(tie{c, other, f.Near}) {
					return
				}
			}
			for _, earlier := range slices.Concat(f.plan[:i]...) {
				if !yield(tie{c, earlier, -1}) {
					return
				}
			}
		}
	}
}

// stretchTies yields what must hold of stretches.
func (f fired) stretchTies(yield func(tie) bool) {
	for i := range len(f.plan) - 1 {
		for _, under := range f.plan[i] {
			for _, over := range f.plan[i+1] {
				if !yield(tie{over, under, f.Give}) || !yield(tie{under, over, f.Give}) {
					return
				}
			}
		}
	}
}

// surely reports whether the plan is right in all truths: each tie is of two colours, whose values are at the ends of their spans in some truth.
func (f fired) surely() bool {
	return f.lasts() && surely(heatsOf(f.ColourSet), f.heatTies) && surely(stretchesOf(f.ColourSet), f.stretchTies)
}

// lasts reports whether no colour is eaten or fired too often, which no truth changes.
func (f fired) lasts() bool {
	each, _ := f.firings()
	for c, many := range each {
		if many > f.Paints[c].Most {
			return false
		}
	}
	return !slices.ContainsFunc(f.Eats, f.eaten)
}

// eaten reports whether the first colour of a pair is laid later than the second one.
func (f fired) eaten(p api.ColourPair) bool {
	eaten := f.roundOf(p.Eaten)
	return eaten >= 0 && f.roundOf(p.Eater) > eaten
}

// roundOf returns the number of the round with a colour, or -1.
func (f fired) roundOf(colour int) int {
	return slices.IndexFunc(f.plan, func(round []int) bool { return slices.Contains(round, colour) })
}

// firings returns how often each colour is fired, and how many firings there are.
func (f fired) firings() (each []int, all int) {
	each = make([]int, len(f.Paints))
	for _, round := range slices.Backward(f.plan) {
		all += slices.Max(mapped(round, func(c int) int { return f.Paints[c].Coats }))
		for _, c := range round {
			each[c] = all
		}
	}
	return each, all
}

// heats returns at which heats the furnace may be in each round of a plan that surely is right.
func (f fired) heats() []api.Span {
	var out []api.Span
	high := api.MaxColourHeat
	for _, round := range f.plan {
		low, next := 0, high
		for _, c := range round {
			low = max(low, f.Paints[c].Heat.High)
			next = min(next, f.Paints[c].Heat.Low-1)
		}
		out = append(out, api.Span{Low: low, High: high})
		high = next
	}
	return out
}
