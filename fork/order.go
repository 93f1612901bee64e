package fork

import (
	"iter"

	"smalto/api"
)

// order is signs that are fired on a fork; known keeps of sets of them whether they surely go on it together.
type order struct {
	api.ForkRules
	signs []api.ForkSign
	known map[set]bool
}

// set holds of each number whether the sign is among some.
type set [api.MaxForkSigns]bool

// orderOf returns an order of which nothing is known yet.
func orderOf(r api.ForkRules, l []api.ForkSign) order {
	return order{r, l, map[set]bool{}}
}

// carry returns the signs with some numbers, as they are to lie on the fork together.
func (o order) carry(numbers ...int) carried {
	c := carried{ForkRules: o.ForkRules}
	for _, sign := range numbers {
		c.signs = append(c.signs, o.signs[sign])
	}
	return c
}

// surely reports whether the signs with some numbers go on the fork in all truths.
func (o order) surely(numbers ...int) bool {
	var key set
	for _, sign := range numbers {
		key[sign] = true
	}
	goes, ok := o.known[key]
	if !ok {
		goes, _ = o.carry(numbers...).goes()
		o.known[key] = goes
	}
	return goes
}

// bar returns the fewest signs of a load that alone do not surely go, of several such lists the smallest one, and whether there are any.
func (o order) bar(load []int) (signs []int, ok bool) {
	for size := range len(load) + 1 {
		for part := range parts(load, size) {
			if !o.surely(part...) {
				return part, true
			}
		}
	}
	return nil, false
}

// apart returns the most signs no two of which surely go together, of several such lists the smallest one.
func (o order) apart() []int {
	var all []int
	for sign := range len(o.signs) {
		all = append(all, sign)
	}
	for size := len(all); size > 0; size-- {
		for part := range parts(all, size) {
			if !o.twoGo(part) {
				return part
			}
		}
	}
	return nil
}

// twoGo reports whether any two of some signs surely go together.
func (o order) twoGo(signs []int) bool {
	for two := range parts(signs, 2) {
		if o.surely(two...) {
			return true
		}
	}
	return false
}

// loads returns the smallest list of the fewest loads in which all signs are fired, how many these are, and whether there are any.
func (o order) loads() (list []int, many int, ok bool) {
	return o.least(func(many int, list []int) bool { return within(0, many-1, list...) })
}

// put returns the smallest list of loads, with numbers no greater than those written down, in which all signs are fired and the fewest have another number, how many these are, and whether there is one.
func (o order) put(written []int) (to []int, moved int, ok bool) {
	most := greatest(written)
	return o.least(func(moved int, list []int) bool {
		return within(0, most, list...) && differ(list, written) <= moved
	})
}

// least returns the least number, up to that of all signs, for which a list of loads is allowed in which all of them are fired, with the smallest such list, and whether there is one.
func (o order) least(allowed func(number int, list []int) bool) (list []int, number int, ok bool) {
	for number := range len(o.signs) + 1 {
		for list := range o.lists(func(list []int) bool { return allowed(number, list) }) {
			return list, number, true
		}
	}
	return nil, 0, false
}

// lists yields, from the smallest one on, the lists of loads in which all signs are fired, and which are allowed, as is all that they begin with.
func (o order) lists(allowed func(list []int) bool) iter.Seq[[]int] {
	return func(yield func([]int) bool) { o.longerLists(nil, allowed, yield) }
}

// longerLists yields those lists that begin so; it reports whether more are wanted.
func (o order) longerLists(begin []int, allowed func([]int) bool, yield func([]int) bool) bool {
	if len(begin) == len(o.signs) {
		return yield(begin)
	}
	for number := range api.MaxForkSigns {
		list := with(begin, number)
		if allowed(list) && o.surely(lastLoad(list)...) && !o.longerLists(list, allowed, yield) {
			return false
		}
	}
	return true
}

// lastLoad returns the signs that are in one load with the last one of a list.
func lastLoad(list []int) []int {
	last := list[len(list)-1]
	var load []int
	for sign, number := range list {
		if number == last {
			load = append(load, sign)
		}
	}
	return load
}
