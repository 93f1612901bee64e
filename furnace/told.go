package furnace

import "smalto/api"

// told is an oven that has a truth, with the gaps that all its notes leave.
type told struct {
	oven
	gaps
}

// tell returns what all notes of a furnace tell, or its error.
func tell(o api.FurnaceOven) (told, api.Errno) {
	if e := Check(o); e != api.OK {
		return told{}, e
	}
	t := told{oven: ovenOf(o)}
	t.gaps = t.without()
	if !t.can() {
		return told{}, api.ErrState
	}
	return t, api.OK
}

// places returns the places for which a condition holds.
func (t told) places(ok func(place int) bool) []int {
	var out []int
	for place := range t.Heats {
		if ok(place) {
			out = append(out, place)
		}
	}
	return out
}

// surelyGood returns the places at which a ware surely comes out good.
func (t told) surelyGood(w api.FurnaceWare) []int {
	all, good := t.heats(), goodHeats(w)
	return t.places(func(place int) bool { return good.Low <= all[place].Low && all[place].High <= good.High })
}

// possiblyGood returns the places at which a ware possibly comes out good: all heats between the least and the greatest one are those of some truth.
func (t told) possiblyGood(w api.FurnaceWare) []int {
	all, good := t.heats(), goodHeats(w)
	return t.places(func(place int) bool { return good.Low <= all[place].High && all[place].Low <= good.High })
}

// surelyHottest reports whether no other place is hotter than this one in any truth.
func (t told) surelyHottest(place int) bool {
	for other := range t.Heats {
		if t.apart(other, place).High > 0 {
			return false
		}
	}
	return true
}

// possiblyHottest reports whether no other place is hotter than this one in some truth.
func (t told) possiblyHottest(place int) bool {
	g := t.gaps
	for other := range t.Heats {
		g.hold(other, place, 0)
	}
	return g.can()
}

// turn returns by how many degrees the furnace can be turned; the span is turned round if there are none.
func (t told) turn(l []api.FurnaceSet) api.Span {
	all := t.heats()
	out := api.Span{Low: -api.MaxFurnaceTurn, High: api.MaxFurnaceTurn}
	for _, s := range l {
		is, good := all[s.Place], goodHeats(s.Ware)
		out.Low = max(out.Low, good.Low-is.Low)
		out.High = min(out.High, good.High-is.High)
	}
	return out
}

// needless returns the notes without each of which all heats are the same.
func (t told) needless() []int {
	var out []int
	for i := range t.notes {
		less := t.without(i)
		if less.heats() == t.heats() {
			out = append(out, i)
		}
	}
	return out
}

// trial returns the first cone after which the fewest degrees are open at worst, and how many; no cone and all degrees if none leaves fewer.
func (t told) trial() (best cone, left int) {
	left = t.open(t.gaps)
	for place := range t.Heats {
		for less := range api.MaxFurnaceHeat {
			c := cone{Place: place, Bends: less + 1}
			if worst := t.worst(c); worst < left {
				best, left = c, worst
			}
		}
	}
	return best, left
}

// worst returns how many degrees are open after the worse one of the answers that a cone can give.
func (t told) worst(c cone) int {
	worst := 0
	for _, bent := range []bool{false, true} {
		g := t.gaps
		c.Bent = bent
		c.mark(&g)
		if g.can() {
			worst = max(worst, t.open(g))
		}
	}
	return worst
}

// open returns how many degrees some gaps leave open at all places together.
func (t told) open(g gaps) int {
	sum := 0
	for place := range t.Heats {
		is := g.apart(place, zero)
		sum += is.High - is.Low
	}
	return sum
}
