package fork

import (
	"slices"

	"smalto/api"
)

// checkLoad returns the error of a fork and signs, or that of a load of them.
func checkLoad(r api.ForkRules, l []api.ForkSign, load []int) api.Errno {
	if e := Check(r, l); e != api.OK {
		return e
	}
	if !isLoad(l, load) {
		return api.ErrForm
	}
	return api.OK
}

// isFork reports whether a fork is valid.
func isFork(r api.ForkRules) bool {
	return within(1, api.MaxForkBars, r.Bars) && within(1, api.MaxForkLength, r.Length) && within(0, api.MaxForkGap, r.Gap) &&
		within(1, api.MaxForkLoad, r.Load) && within(0, api.MaxForkHigh, r.Near)
}

// areSigns reports whether all signs are valid.
func areSigns(l []api.ForkSign) bool {
	return !slices.ContainsFunc(l, func(s api.ForkSign) bool {
		return !within(1, api.MaxForkLength, s.Long) || !within(1, api.MaxForkHigh, s.High) ||
			!isSpan(s.Weight, 1, api.MaxForkWeight) || !isSpan(s.Heat, 0, api.MaxForkHeat)
	})
}

// isLoad reports whether numbers are signs that there are, ascending.
func isLoad(l []api.ForkSign, load []int) bool {
	least := 0
	for _, sign := range load {
		if !within(least, len(l)-1, sign) {
			return false
		}
		least = sign + 1
	}
	return true
}

// isSpan reports whether a span is valid from low to high.
func isSpan(s api.Span, low, high int) bool {
	return within(low, high, s.Low, s.High) && s.Low <= s.High
}

// within reports whether all numbers are from low to high.
func within(low, high int, numbers ...int) bool {
	return !slices.ContainsFunc(numbers, func(n int) bool { return n < low || high < n })
}
