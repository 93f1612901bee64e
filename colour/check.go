package colour

import "smalto/api"

// checkPlans returns the error of a set, or that of plans of its colours.
func checkPlans(s api.ColourSet, plans ...[][]int) api.Errno {
	if e := Check(s); e != api.OK {
		return e
	}
	if !every(plans, func(plan [][]int) bool { return isPlan(s, plan) }) {
		return api.ErrForm
	}
	return api.OK
}

// checkTrials returns the error of a set, or that of plans that were fired.
func checkTrials(s api.ColourSet, plans [][][]int) api.Errno {
	if e := Check(s); e != api.OK {
		return e
	}
	if len(plans) > api.MaxColourTrials {
		return api.ErrLong
	}
	return checkPlans(s, plans...)
}

// checkColours returns the error of a set, or that of a list of its colours.
func checkColours(s api.ColourSet, colours []int) api.Errno {
	if e := Check(s); e != api.OK {
		return e
	}
	if !areColours(s, colours...) {
		return api.ErrForm
	}
	return api.OK
}

// isPaint reports whether a paint is valid.
func isPaint(p api.ColourPaint) bool {
	return isSpan(p.Heat, api.MaxColourHeat) && isSpan(p.Stretch, api.MaxColourStretch) &&
		within(1, api.MaxColourCoats, p.Coats) && within(1, api.MaxColourFirings, p.Most)
}

// isPair reports whether a pair is two colours of a set.
func isPair(s api.ColourSet, p api.ColourPair) bool {
	return within(0, len(s.Paints)-1, p.Eater, p.Eaten) && p.Eater != p.Eaten
}

// isSpan reports whether a span is valid from 0 to high.
func isSpan(s api.Span, high int) bool {
	return within(0, high, s.Low, s.High) && s.Low <= s.High
}

// isPlan reports whether rounds are a plan of a set's colours.
func isPlan(s api.ColourSet, plan [][]int) bool {
	var used [api.MaxColours]bool
	for _, round := range plan {
		if len(round) == 0 || !areColours(s, round...) {
			return false
		}
		for _, c := range round {
			if used[c] {
				return false
			}
			used[c] = true
		}
	}
	return true
}

// areColours reports whether numbers are colours of a set, ascending.
func areColours(s api.ColourSet, numbers ...int) bool {
	least := 0
	return every(numbers, func(c int) bool {
		ok := within(least, len(s.Paints)-1, c)
		least = c + 1
		return ok
	})
}

// within reports whether all numbers are from low to high.
func within(low, high int, numbers ...int) bool {
	return every(numbers, func(n int) bool { return low <= n && n <= high })
}
