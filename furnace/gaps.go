package furnace

import "smalto/api"

// The point behind the last place stands for the heat 0, so that the heat of a place is a gap too.
const (
	zero   = api.MaxFurnacePlaces
	points = api.MaxFurnacePlaces + 1
)

// gaps holds by how much each point is at most hotter than each other one. Each gap is reached in some truth, as long as there is one.
type gaps [points][points]int

// heats are those of all places that a furnace can have; of those that it has not nothing is ever known.
type heats [api.MaxFurnacePlaces]api.Span

// unknown returns the gaps of places of which nothing is known.
func unknown() gaps {
	var g gaps
	for a := range api.MaxFurnacePlaces {
		for b := range points {
			if a != b {
				g[a][b] = api.MaxFurnaceHeat
			}
		}
	}
	return g
}

// hold marks that a is hotter than b by so much at most, and narrows all gaps that this narrows.
func (g *gaps) hold(a, b, most int) {
	// Where there is no truth gaps have no least value: each one that is held would make all of them less, without end.
	if !g.can() {
		return
	}
	was := *g
	for x := range points {
		for y := range points {
			g[x][y] = min(was[x][y], was[x][a]+most+was[b][y])
		}
	}
}

// lies marks that the heat of a place is in a span.
func (g *gaps) lies(place int, in api.Span) {
	g.hold(place, zero, in.High)
	g.hold(zero, place, -in.Low)
}

// can reports whether there is a truth.
func (g *gaps) can() bool {
	for a := range points {
		if g[a][a] < 0 {
			return false
		}
	}
	return true
}

// apart returns the heat of a point less that of another one.
func (g *gaps) apart(a, b int) api.Span {
	return api.Span{Low: -g[b][a], High: g[a][b]}
}

// heats returns how hot all places are.
func (g *gaps) heats() heats {
	var out heats
	for place := range out {
		out[place] = g.apart(place, zero)
	}
	return out
}
