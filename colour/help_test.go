package colour_test

import (
	"math/rand"
	"slices"

	"smalto/api"
)

// span, list, paint and rounds keep the tables of tests short.
func span(low, high int) api.Span { return api.Span{Low: low, High: high} }

func list(l ...int) []int { return l }

func paint(heat, stretch api.Span, coats, most int) api.ColourPaint {
	return api.ColourPaint{Heat: heat, Stretch: stretch, Coats: coats, Most: most}
}

func rounds(l ...[]int) [][]int { return l }

func plans(l ...[][]int) [][][]int { return l }

// works returns the colours of the chapter's examples, after some changes.
func works(changes ...func(s *api.ColourSet)) api.ColourSet {
	s := api.ColourSet{
		Near: 30, Give: 15,
		Paints: []api.ColourPaint{
			paint(span(850, 870), span(90, 100), 1, 5),
			paint(span(800, 820), span(95, 105), 2, 4),
			paint(span(770, 790), span(92, 98), 1, 3),
			paint(span(740, 755), span(100, 106), 1, 2),
		},
		Eats: []api.ColourPair{{Eater: 3, Eaten: 2}},
	}
	for _, change := range changes {
		change(&s)
	}
	return s
}

// free takes the pair away.
func free(s *api.ColourSet) { s.Eats = nil }

// exact returns colours of one coat whose heats are known, which may be fired as often as any, and whose stretches do not matter.
func exact(near int, heats ...int) api.ColourSet {
	s := api.ColourSet{Near: near, Give: api.MaxColourNear}
	for _, h := range heats {
		s.Paints = append(s.Paints, paint(span(h, h), span(0, 0), 1, api.MaxColourFirings))
	}
	return s
}

// truth is what nobody has seen: a heat and a stretch of each colour.
type truth struct{ heat, stretch []int }

// truths returns all truths of a set with short spans.
func truths(s api.ColourSet) []truth {
	out := []truth{{}}
	for _, p := range s.Paints {
		var next []truth
		for _, t := range out {
			for h := p.Heat.Low; h <= p.Heat.High; h++ {
				for x := p.Stretch.Low; x <= p.Stretch.High; x++ {
					next = append(next, truth{slices.Concat(t.heat, list(h)), slices.Concat(t.stretch, list(x))})
				}
			}
		}
		out = next
	}
	return out
}

// anyTruth returns one of the truths of a set.
func anyTruth(r *rand.Rand, s api.ColourSet) truth {
	var t truth
	for _, p := range s.Paints {
		t.heat = append(t.heat, p.Heat.Low+r.Intn(p.Heat.High-p.Heat.Low+1))
		t.stretch = append(t.stretch, p.Stretch.Low+r.Intn(p.Stretch.High-p.Stretch.Low+1))
	}
	return t
}

func apart(a, b int) int { return max(a-b, b-a) }

// right judges a plan as the chapter's section "Types" says, condition by condition.
func right(s api.ColourSet, t truth, plan [][]int) bool {
	at := map[int]int{}
	for i, round := range plan {
		for _, c := range round {
			at[c] = i
		}
	}
	for a, i := range at {
		for b, j := range at {
			switch {
			case i == j && apart(t.heat[a], t.heat[b]) > s.Near:
				return false
			case i > j && t.heat[a] >= t.heat[b]:
				return false
			case i == j+1 && apart(t.stretch[a], t.stretch[b]) > s.Give:
				return false
			}
		}
	}
	for _, p := range s.Eats {
		eater, one := at[p.Eater]
		eaten, two := at[p.Eaten]
		if one && two && eater > eaten {
			return false
		}
	}
	for c := range at {
		if each, _ := count(s, plan); each[c] > s.Paints[c].Most {
			return false
		}
	}
	return true
}

// count counts firings round by round.
func count(s api.ColourSet, plan [][]int) (each []int, all int) {
	each = make([]int, len(s.Paints))
	for i, round := range plan {
		coats := 0
		for _, c := range round {
			coats = max(coats, s.Paints[c].Coats)
		}
		all += coats
		for _, earlier := range plan[:i+1] {
			for _, c := range earlier {
				each[c] += coats
			}
		}
	}
	return each, all
}

// judge tells of a plan whether it is right in all truths, and in one.
func judge(s api.ColourSet, all []truth, plan [][]int) (surely, possibly bool) {
	surely = true
	for _, t := range all {
		if right(s, t, plan) {
			possibly = true
		} else {
			surely = false
		}
	}
	return surely, possibly
}

// lists returns all lists of numbers below n, ascending, the shortest ones first, and those as long from the smallest one on.
func lists(n int) [][]int {
	var out [][]int
	for bits := range 1 << n {
		var l []int
		for i := range n {
			if bits>>i&1 == 1 {
				l = append(l, i)
			}
		}
		out = append(out, l)
	}
	slices.SortFunc(out, func(a, b []int) int {
		if len(a) != len(b) {
			return len(a) - len(b)
		}
		return slices.Compare(a, b)
	})
	return out
}

// every plan of just these colours: each colour is given a round, as long as no round is left out.
func everyPlan(colours []int) [][][]int {
	out := plans(nil)
	for _, c := range colours {
		var next [][][]int
		for _, plan := range out {
			for i := range len(plan) + 1 {
				next = append(next, slices.Insert(slices.Clone(plan), i, list(c)))
				if i < len(plan) {
					with := slices.Clone(plan)
					with[i] = slices.Concat(plan[i], list(c))
					next = append(next, with)
				}
			}
		}
		out = next
	}
	return out
}

func comparePlans(a, b [][]int) int { return slices.CompareFunc(a, b, slices.Compare[[]int]) }

func equalPlans(a, b [][]int) bool { return slices.EqualFunc(a, b, slices.Equal[[]int]) }

// someSet returns a set with short spans close to each other, so that all kinds of plans are right and wrong.
func someSet(r *rand.Rand, colours, wide int) api.ColourSet {
	s := api.ColourSet{Near: r.Intn(5), Give: r.Intn(4)}
	for range colours {
		heat, stretch := 5+r.Intn(8), r.Intn(4)
		s.Paints = append(s.Paints, paint(span(heat, heat+r.Intn(wide+1)), span(stretch, stretch+r.Intn(wide+1)), 1+r.Intn(3), 2+r.Intn(8)))
	}
	for range r.Intn(3) {
		a := r.Intn(colours)
		if b := r.Intn(colours); a != b {
			s.Eats = append(s.Eats, api.ColourPair{Eater: a, Eaten: b})
		}
	}
	return s
}

// somePlan returns a plan of some colours of a set, those that are hotter mostly before the others.
func somePlan(r *rand.Rand, s api.ColourSet) [][]int {
	order := r.Perm(len(s.Paints))[:1+r.Intn(len(s.Paints))]
	if r.Intn(4) > 0 {
		slices.SortStableFunc(order, func(a, b int) int { return s.Paints[b].Heat.High - s.Paints[a].Heat.High })
	}
	var plan [][]int
	for _, c := range order {
		if len(plan) > 0 && r.Intn(3) == 0 {
			last := len(plan) - 1
			plan[last] = append(plan[last], c)
			slices.Sort(plan[last])
		} else {
			plan = append(plan, list(c))
		}
	}
	return plan
}

// someSets returns sets of one to five colours whose truths can all be tried.
func someSets(r *rand.Rand) []api.ColourSet {
	var out []api.ColourSet
	for i := range 120 {
		colours := 1 + i%5
		wide := 2
		if colours > 3 {
			wide = 1
		}
		out = append(out, someSet(r, colours, wide))
	}
	return out
}
