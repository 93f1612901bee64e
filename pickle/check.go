package pickle

import (
	"slices"

	"smalto/api"
)

// checkSteps returns the error of a bath, or that of steps.
func checkSteps(b api.PickleBath, l []api.PickleStep) api.Errno {
	if e := Check(b); e != api.OK {
		return e
	}
	if !areSteps(b, l) {
		return api.ErrForm
	}
	return api.OK
}

// checkSeen returns the error of a bath, or that of what was seen.
func checkSeen(b api.PickleBath, l []api.PickleSeen) api.Errno {
	if e := checkSteps(b, stepsOf(l)); e != api.OK {
		return e
	}
	if !every(l, func(s api.PickleSeen) bool { return within(int(api.PickleDirty), int(api.PickleEaten), int(s.How)) }) {
		return api.ErrForm
	}
	return api.OK
}

// checkAcids returns the error of acids that are mixed.
func checkAcids(l []api.PickleAcid) api.Errno {
	switch {
	case len(l) > api.MaxPickleAcids:
		return api.ErrLong
	case len(l) == 0:
		return api.ErrNone
	case !every(l, isAcid):
		return api.ErrArg
	}
	return api.OK
}

// isPlate reports whether a plate is valid.
func isPlate(p api.PicklePlate) bool {
	return areSpans(0, api.MaxPickleRust, p.Rust) && within(0, api.MaxPickleTakes, p.Takes) && within(0, api.MaxPickleThin, p.Thin)
}

// isAcid reports whether an acid is valid.
func isAcid(a api.PickleAcid) bool {
	return within(1, api.MaxPickleOunces, a.Ounces) && areSpans(0, api.MaxPickleStrength, a.Strength)
}

// areSteps reports whether steps are valid, and of a bath's plates.
func areSteps(b api.PickleBath, l []api.PickleStep) bool {
	return every(l, func(s api.PickleStep) bool { return within(1, api.MaxPickleHours, s.Hours) }) && arePlates(b, platesOf(l)...)
}

// arePlates reports whether numbers are of plates of a bath, none twice.
func arePlates(b api.PickleBath, numbers ...int) bool {
	// A list that is longer has a plate twice, and need not be gone through.
	if len(numbers) > len(b.Plates) || !within(0, len(b.Plates)-1, numbers...) {
		return false
	}
	return every(numbers, func(n int) bool { return count(numbers, n) == 1 })
}

// areSpans reports whether all spans are valid from low to high.
func areSpans(low, high int, spans ...api.Span) bool {
	return every(spans, func(s api.Span) bool { return within(low, high, s.Low, s.High) && s.Low <= s.High })
}

// within reports whether all numbers are from low to high.
func within(low, high int, numbers ...int) bool {
	return every(numbers, func(n int) bool { return low <= n && n <= high })
}

// every reports whether a condition holds for all elements of a list.
func every[T any](l []T, ok func(T) bool) bool {
	return !slices.ContainsFunc(l, func(x T) bool { return !ok(x) })
}
