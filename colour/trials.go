package colour

import (
	"slices"

	"smalto/api"
)

// trials is plans of a set's colours that came out well.
type trials struct {
	api.ColourSet
	plans [][][]int
}

// truths returns what is left of heats and stretches if all plans were right, and whether anything is.
func (t trials) truths() (heat, stretch gaps, ok bool) {
	heat, stretch = gapsOf(heatsOf(t.ColourSet)), gapsOf(stretchesOf(t.ColourSet))
	for _, plan := range t.plans {
		f := fired{t.ColourSet, plan}
		if !f.lasts() {
			return gaps{}, gaps{}, false
		}
		heat.hold(f.heatTies)
		stretch.hold(f.stretchTies)
	}
	ok = heat.settle() && stretch.settle()
	return heat, stretch, ok
}

// can reports whether all plans but those with some numbers can have been right in one truth.
func (t trials) can(drop []int) bool {
	left := trials{ColourSet: t.ColourSet}
	for i, plan := range t.plans {
		if !slices.Contains(drop, i) {
			left.plans = append(left.plans, plan)
		}
	}
	_, _, ok := left.truths()
	return ok
}
