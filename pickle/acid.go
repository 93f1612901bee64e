package pickle

import (
	"smalto/api"
)

// mixed returns the strength of acids that are mixed with so many ounces of water.
func mixed(l []api.PickleAcid, water int) api.Span {
	var all api.Span
	ounces := water
	for _, a := range l {
		all.Low += a.Strength.Low * a.Ounces
		all.High += a.Strength.High * a.Ounces
		ounces += a.Ounces
	}
	return api.Span{Low: all.Low / ounces, High: (all.High + ounces - 1) / ounces}
}
