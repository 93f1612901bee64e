package fork

import (
	"slices"

	"smalto/api"
)

// carried is signs that are to lie on a fork together.
type carried struct {
	api.ForkRules
	signs []api.ForkSign
}

// goes reports whether the signs go on the fork, in all truths and in one at least: truths differ in nothing but weights.
func (c carried) goes() (surely, possibly bool) {
	if !c.suits() {
		return false, false
	}
	weight := c.weight()
	return weight.High <= c.Load, weight.Low <= c.Load
}

// suits reports whether the signs go on the fork, as far as it does not depend on what they weigh.
func (c carried) suits() bool {
	_, lie := c.bars()
	heat := c.heat()
	return lie && heat.Low <= heat.High && c.areNear()
}

// areNear reports whether the signs are about as high as each other.
func (c carried) areNear() bool {
	return !slices.ContainsFunc(c.signs, func(a api.ForkSign) bool {
		return slices.ContainsFunc(c.signs, func(b api.ForkSign) bool { return a.High-b.High > c.Near })
	})
}

// heat returns the heats at which all signs can be fired; the span is turned round if there are none.
func (c carried) heat() api.Span {
	heat := api.Span{Low: 0, High: api.MaxForkHeat}
	for _, s := range c.signs {
		heat = api.Span{Low: max(heat.Low, s.Heat.Low), High: min(heat.High, s.Heat.High)}
	}
	return heat
}

// weight returns what all signs weigh together.
func (c carried) weight() api.Span {
	var weight api.Span
	for _, s := range c.signs {
		weight = api.Span{Low: weight.Low + s.Weight.Low, High: weight.High + s.Weight.High}
	}
	return weight
}

// bars returns the smallest list of bars on which the signs lie, and whether there is one.
func (c carried) bars() ([]int, bool) {
	return emptyRack(c.ForkRules).lay(nil, c.signs)
}

// rack is the bars of a fork, with the room that is left on each one.
type rack struct {
	api.ForkRules
	room [api.MaxForkBars]int
}

// emptyRack returns the bars of a fork without signs. Each sign takes a gap besides its length, so there is room for one more: behind the last sign of a bar no gap is needed.
func emptyRack(r api.ForkRules) rack {
	k := rack{ForkRules: r}
	for bar := range k.room {
		k.room[bar] = k.Length + k.Gap
	}
	return k
}

// lay returns the smallest list of bars for signs of which the first ones lie on these already, and whether there is one.
func (k rack) lay(begin []int, signs []api.ForkSign) ([]int, bool) {
	if len(begin) == len(signs) {
		return begin, true
	}
	needs := signs[len(begin)].Long + k.Gap
	for bar := range k.Bars {
		if needs > k.room[bar] {
			continue
		}
		next := k
		next.room[bar] -= needs
		if bars, ok := next.lay(with(begin, bar), signs); ok {
			return bars, true
		}
	}
	return nil, false
}
