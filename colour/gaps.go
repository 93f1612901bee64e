package colour

import (
	"iter"

	"smalto/api"
)

// The place behind the last colour stands for the number 0, so that a colour's own bounds are gaps too.
const (
	zero   = api.MaxColours
	places = api.MaxColours + 1
)

// tie says that the value of one colour is greater than that of another one by so much at most.
type tie struct{ colour, other, by int }

// gaps holds by how much the value of each colour is at most greater than that of each other one.
type gaps [places][places]int

// gapsOf returns the gaps of colours of which nothing is known but their spans.
func gapsOf(spans []api.Span) gaps {
	var ends [places]api.Span
	copy(ends[:], spans)
	var g gaps
	for a := range places {
		for b := range places {
			if a != b {
				g[a][b] = ends[a].High - ends[b].Low
			}
		}
	}
	return g
}

// hold narrows gaps by ties.
func (g *gaps) hold(ties iter.Seq[tie]) {
	for t := range ties {
		g[t.colour][t.other] = min(g[t.colour][t.other], t.by)
	}
}

// settle narrows gaps by each other until each one is reached in some truth, and reports whether there is a truth.
func (g *gaps) settle() bool {
	for by := range places {
		for a := range places {
			for b := range places {
				g[a][b] = min(g[a][b], g[a][by]+g[by][b])
			}
		}
	}
	for a := range places {
		if g[a][a] < 0 {
			return false
		}
	}
	return true
}

// spans returns the values of the first colours whose gaps are settled.
func (g *gaps) spans(many int) []api.Span {
	var out []api.Span
	for c := range many {
		out = append(out, api.Span{Low: -g[zero][c], High: g[c][zero]})
	}
	return out
}

// surely reports whether ties hold for all values in spans.
func surely(spans []api.Span, ties iter.Seq[tie]) bool {
	for t := range ties {
		if spans[t.colour].High-spans[t.other].Low > t.by {
			return false
		}
	}
	return true
}
