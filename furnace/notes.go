package furnace

import "smalto/api"

// note is what was seen at a place: it narrows the gaps of all truths.
type note interface {
	mark(g *gaps)
}

// cone is a cone that was seen.
type cone api.FurnaceCone

func (c cone) mark(g *gaps) {
	if c.Bent {
		g.lies(c.Place, api.Span{Low: c.Bends, High: api.MaxFurnaceHeat})
	} else {
		g.lies(c.Place, api.Span{Low: 0, High: c.Bends - 1})
	}
}

// sign is a sign that was seen.
type sign api.FurnaceSign

func (s sign) mark(g *gaps) {
	switch s.How {
	case api.FurnaceDull:
		g.lies(s.Place, api.Span{Low: 0, High: s.Ware.Fires - 1})
	case api.FurnaceGood:
		g.lies(s.Place, goodHeats(s.Ware))
	case api.FurnaceRan:
		g.lies(s.Place, api.Span{Low: s.Ware.Runs, High: api.MaxFurnaceHeat})
	}
}

// goodHeats returns the heats at which a ware comes out good.
func goodHeats(w api.FurnaceWare) api.Span {
	return api.Span{Low: w.Fires, High: w.Runs - 1}
}
