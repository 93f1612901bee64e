package colour_test

import (
	"slices"
	"testing"

	"smalto/api"
	"smalto/colour"
)

// P1.2, P1.3, P1.4, with examples 1 and 5.
func TestRounds(t *testing.T) {
	most := func(c, n int) func(s *api.ColourSet) { return func(s *api.ColourSet) { s.Paints[c].Most = n } }
	near := func(n int) func(s *api.ColourSet) { return func(s *api.ColourSet) { s.Near = n } }
	give := func(n int) func(s *api.ColourSet) { return func(s *api.ColourSet) { s.Give = n } }
	heat := func(c int, h api.Span) func(s *api.ColourSet) { return func(s *api.ColourSet) { s.Paints[c].Heat = h } }
	both := func(s *api.ColourSet) { s.Eats = []api.ColourPair{{Eater: 0, Eaten: 1}, {Eater: 1, Eaten: 0}} }
	for name, x := range map[string]struct {
		s                api.ColourSet
		plan             [][]int
		surely, possibly bool
		each             []int
		all              int
		heats            []api.Span
	}{
		"example 1":             {works(), rounds(list(0), list(1), list(2)), true, true, list(4, 3, 1, 0), 4, []api.Span{span(870, 1000), span(820, 849), span(790, 799)}},
		"example 5":             {works(), rounds(list(0, 1), list(2)), false, true, list(3, 3, 1, 0), 3, nil},
		"no rounds":             {works(), nil, true, true, list(0, 0, 0, 0), 0, nil},
		"one colour":            {works(), rounds(list(3)), true, true, list(0, 0, 0, 1), 1, []api.Span{span(755, 1000)}},
		"two coats":             {works(), rounds(list(1)), true, true, list(0, 2, 0, 0), 2, []api.Span{span(820, 1000)}},
		"two coats, fired once": {works(most(1, 1)), rounds(list(1)), false, false, list(0, 2, 0, 0), 2, nil},
		"side by side":          {works(near(100)), rounds(list(0, 1, 2)), true, true, list(2, 2, 2, 0), 2, []api.Span{span(870, 1000)}},
		"two before one":        {works(near(70)), rounds(list(0, 1), list(2)), true, true, list(3, 3, 1, 0), 3, []api.Span{span(870, 1000), span(790, 799)}},
		"a round's greatest":    {works(near(50), free), rounds(list(0), list(1, 2), list(3)), true, true, list(4, 3, 3, 1), 4, []api.Span{span(870, 1000), span(820, 849), span(755, 769)}},
		"near":                  {works(near(70)), rounds(list(0, 1)), true, true, list(2, 2, 0, 0), 2, []api.Span{span(870, 1000)}},
		"not near surely":       {works(near(69)), rounds(list(0, 1)), false, true, list(2, 2, 0, 0), 2, nil},
		"near possibly":         {works(near(30)), rounds(list(0, 1)), false, true, list(2, 2, 0, 0), 2, nil},
		"not near":              {works(near(29)), rounds(list(0, 1)), false, false, list(2, 2, 0, 0), 2, nil},
		"give":                  {works(give(15)), rounds(list(0), list(1)), true, true, list(3, 2, 0, 0), 3, []api.Span{span(870, 1000), span(820, 849)}},
		"gives not surely":      {works(give(14)), rounds(list(0), list(1)), false, true, list(3, 2, 0, 0), 3, nil},
		"gives, but eaten":      {works(give(2)), rounds(list(2), list(3)), false, false, list(0, 0, 2, 1), 2, nil},
		"gives nothing":         {works(give(1), free), rounds(list(2), list(3)), false, false, list(0, 0, 2, 1), 2, nil},
		"gives just so much":    {works(give(2), free), rounds(list(2), list(3)), false, true, list(0, 0, 2, 1), 2, nil},
		"stretch in a round":    {works(give(0), near(70)), rounds(list(0, 1)), true, true, list(2, 2, 0, 0), 2, []api.Span{span(870, 1000)}},
		"a round between":       {works(give(15), free), rounds(list(0), list(2), list(3)), true, true, list(3, 0, 2, 1), 3, []api.Span{span(870, 1000), span(790, 849), span(755, 769)}},
		"no round between":      {works(give(15)), rounds(list(0), list(3)), false, true, list(2, 0, 0, 1), 2, nil},
		"hotter later":          {works(), rounds(list(1), list(0)), false, false, list(1, 3, 0, 0), 3, nil},
		"as hot later":          {works(heat(1, span(850, 850))), rounds(list(0), list(1)), false, true, list(3, 2, 0, 0), 3, nil},
		"never less hot":        {works(heat(1, span(870, 870))), rounds(list(0), list(1)), false, false, list(3, 2, 0, 0), 3, nil},
		"less hot by one":       {works(heat(1, span(849, 849))), rounds(list(0), list(1)), true, true, list(3, 2, 0, 0), 3, []api.Span{span(870, 1000), span(849, 849)}},
		"hotter than the first": {works(near(100), heat(0, span(800, 800)), heat(2, span(810, 810))), rounds(list(0), list(3), list(2)), false, false, list(3, 0, 1, 2), 3, nil},
		"eaten":                 {works(), rounds(list(2), list(3)), false, false, list(0, 0, 2, 1), 2, nil},
		"not eaten":             {works(free), rounds(list(2), list(3)), true, true, list(0, 0, 2, 1), 2, []api.Span{span(790, 1000), span(755, 769)}},
		"eater in the round":    {works(near(50)), rounds(list(2, 3)), true, true, list(0, 0, 1, 1), 1, []api.Span{span(790, 1000)}},
		"eater alone":           {works(), rounds(list(1), list(3)), true, true, list(0, 3, 0, 1), 3, []api.Span{span(820, 1000), span(755, 799)}},
		"eat each other":        {works(both, near(70)), rounds(list(0, 1)), true, true, list(2, 2, 0, 0), 2, []api.Span{span(870, 1000)}},
		"eat each other apart":  {works(both), rounds(list(0), list(1)), false, false, list(3, 2, 0, 0), 3, nil},
		"most":                  {works(most(0, 4)), rounds(list(0), list(1), list(2)), true, true, list(4, 3, 1, 0), 4, []api.Span{span(870, 1000), span(820, 849), span(790, 799)}},
		"more than most":        {works(most(0, 3)), rounds(list(0), list(1), list(2)), false, false, list(4, 3, 1, 0), 4, nil},
		"most of the last":      {works(most(3, 1)), rounds(list(1), list(3)), true, true, list(0, 3, 0, 1), 3, []api.Span{span(820, 1000), span(755, 799)}},
		"most of none":          {works(most(3, 1)), rounds(list(0)), true, true, list(1, 0, 0, 0), 1, []api.Span{span(870, 1000)}},
	} {
		surely, possibly, e := colour.Is(x.s, x.plan)
		each, all, f := colour.Firings(x.s, x.plan)
		heats, g := colour.Heats(x.s, x.plan)
		late := api.OK
		if !x.surely {
			late = api.ErrState
		}
		if surely != x.surely || possibly != x.possibly || e != api.OK {
			t.Error(name, surely, possibly, e)
		}
		if !slices.Equal(each, x.each) || all != x.all || f != api.OK {
			t.Error(name, each, all, f)
		}
		if !slices.Equal(heats, x.heats) || g != late {
			t.Error(name, heats, g)
		}
	}
}

// P1.5, P1.6, P1.7, with examples 2, 3 and 4. A bar that is not nil means that there is no plan.
func TestSigns(t *testing.T) {
	most := func(c, n int) func(s *api.ColourSet) { return func(s *api.ColourSet) { s.Paints[c].Most = n } }
	near := func(s *api.ColourSet) { s.Near = 100 }
	coats := func(s api.ColourSet, l ...int) api.ColourSet {
		for c, n := range l {
			s.Paints[c].Coats = n
		}
		return s
	}
	for name, x := range map[string]struct {
		s    api.ColourSet
		l    []int
		plan [][]int
		bar  []int
		with []int
	}{
		"example 1, 3":                {works(), list(0, 1, 2), rounds(list(0), list(1), list(2)), nil, nil},
		"example 2":                   {works(), list(0, 1, 2, 3), nil, list(0, 3), nil},
		"example 3":                   {works(), list(0, 1), rounds(list(0), list(1)), nil, list(2, 3)},
		"example 4":                   {works(free), list(0, 1, 2, 3), rounds(list(0), list(1), list(2), list(3)), nil, nil},
		"no colours":                  {works(), nil, nil, nil, list(0, 1, 2, 3)},
		"no colours, dead":            {works(most(1, 1)), nil, nil, nil, list(0, 2, 3)},
		"one dead":                    {works(most(1, 1)), list(0, 1, 3), nil, list(1), nil},
		"one between":                 {works(), list(0, 3), nil, list(0, 3), list(1)},
		"two between":                 {works(free), list(0, 3), nil, list(0, 3), list(1, 2)},
		"one eaten":                   {works(), list(1, 2, 3), nil, list(2, 3), nil},
		"all three too many":          {works(most(0, 3)), list(0, 1, 2), nil, list(0, 1, 2), nil},
		"side by side":                {works(near), list(0, 1, 2), rounds(list(0, 1, 2)), nil, list(3)},
		"as hot":                      {exact(0, 7, 7, 7), list(0, 1, 2), rounds(list(0, 1, 2)), nil, nil},
		"five":                        {exact(0, 5, 9, 7, 6, 8), list(0, 1, 2, 3, 4), rounds(list(1), list(4), list(2), list(3), list(0)), nil, nil},
		"four side by side":           {exact(3, 14, 13, 12, 11, 5), list(0, 1, 2, 3, 4), rounds(list(0, 1, 2, 3), list(4)), nil, nil},
		"four rounds":                 {exact(1, 50, 40, 30, 20, 19), list(0, 1, 2, 3, 4), rounds(list(0), list(1), list(2), list(3, 4)), nil, nil},
		"a round that is a beginning": {exact(10, 30, 20, 10), list(0, 1, 2), rounds(list(0), list(1, 2)), nil, nil},
		"the smaller first round":     {exact(10, 10, 20, 30), list(0, 1, 2), rounds(list(1, 2), list(0)), nil, nil},
		"fewest before smallest":      {coats(exact(10, 30, 20, 10), 2, 2, 1), list(0, 1, 2), rounds(list(0, 1), list(2)), nil, nil},
		"more rounds, fewest firings": {coats(exact(10, 30, 20, 10), 1, 3, 3), list(0, 1, 2), rounds(list(0), list(1, 2)), nil, nil},
	} {
		plan, e := colour.Plan(x.s, x.l)
		bar, f := colour.Bar(x.s, x.l)
		with, g := colour.With(x.s, x.l)
		none, late := api.OK, api.ErrTwice
		if x.bar != nil {
			none, late = api.ErrNone, api.OK
		}
		if !equalPlans(plan, x.plan) || e != none {
			t.Error(name, plan, e)
		}
		if !slices.Equal(bar, x.bar) || f != late {
			t.Error(name, bar, f)
		}
		if !slices.Equal(with, x.with) || g != api.OK {
			t.Error(name, with, g)
		}
	}
}

// P1.8, P1.9, with examples 6 and 7. Wrong plans that are not nil mean that there is no truth.
func TestTrials(t *testing.T) {
	heats := []api.Span{span(850, 870), span(800, 820), span(770, 790), span(740, 755)}
	stretches := []api.Span{span(90, 100), span(95, 105), span(92, 98), span(100, 106)}
	give := func(n int) func(s *api.ColourSet) { return func(s *api.ColourSet) { s.Give = n } }
	most := func(c, n int) func(s *api.ColourSet) { return func(s *api.ColourSet) { s.Paints[c].Most = n } }
	wide := func(s *api.ColourSet) {
		for c := range s.Paints {
			s.Paints[c].Heat = span(700, 703)
		}
	}
	for name, x := range map[string]struct {
		s              api.ColourSet
		trials         [][][]int
		heats, stretch []api.Span
		wrong          []int
	}{
		"example 6":        {works(), plans(rounds(list(0, 1), list(2))), []api.Span{span(850, 850), span(820, 820), heats[2], heats[3]}, stretches, nil},
		"example 7":        {works(), plans(rounds(list(0, 1)), rounds(list(0), list(1))), []api.Span{span(850, 850), span(820, 820), heats[2], heats[3]}, stretches, nil},
		"example 7, wrong": {works(), plans(rounds(list(1), list(0)), rounds(list(0), list(1))), nil, nil, list(0)},
		"no plans":         {works(), nil, heats, stretches, nil},
		"empty plans":      {works(), plans(nil, nil, nil), heats, stretches, nil},
		"one colour":       {works(), plans(rounds(list(2))), heats, stretches, nil},
		"one way alone":    {works(), plans(rounds(list(2, 3))), []api.Span{heats[0], heats[1], span(770, 785), heats[3]}, stretches, nil},
		"later ones cool":  {works(wide), plans(rounds(list(0), list(1), list(2))), []api.Span{span(702, 703), span(701, 702), span(700, 701), span(700, 703)}, stretches, nil},
		"one after another": {works(wide), plans(rounds(list(0), list(1)), rounds(list(1), list(2)), rounds(list(2, 3))), []api.Span{span(702, 703), span(701, 702), span(700, 701), span(700, 703)},
			stretches, nil},
		"stretch":             {works(give(1)), plans(rounds(list(0), list(3))), heats, []api.Span{span(99, 100), stretches[1], stretches[2], span(100, 101)}, nil},
		"stretches of three":  {works(give(1)), plans(rounds(list(0), list(3)), rounds(list(0), list(2))), heats, []api.Span{span(99, 99), stretches[1], span(98, 98), span(100, 100)}, nil},
		"stretch of none":     {works(give(0)), plans(rounds(list(0), list(3)), rounds(list(0), list(2))), nil, nil, list(0)},
		"each one can, two":   {works(wide), plans(rounds(list(0), list(1)), rounds(list(2), list(3)), rounds(list(1), list(0))), nil, nil, list(0, 1)},
		"any two can":         {works(wide, free), plans(rounds(list(0), list(1)), rounds(list(1), list(2)), rounds(list(2), list(0))), nil, nil, list(0)},
		"the last is wrong":   {works(wide, free), plans(rounds(list(0), list(1)), rounds(list(0), list(1), list(2)), rounds(list(1), list(0))), nil, nil, list(2)},
		"eaten, in no truth":  {works(), plans(rounds(list(0)), rounds(list(2), list(3)), rounds(list(1))), nil, nil, list(1)},
		"too often, the same": {works(most(1, 1)), plans(rounds(list(0)), rounds(list(2)), rounds(list(1))), nil, nil, list(2)},
		"all are wrong":       {works(), plans(rounds(list(1), list(0)), rounds(list(2), list(3)), rounds(list(3), list(1))), nil, nil, list(0, 1, 2)},
	} {
		hot, stretch, e := colour.Told(x.s, x.trials)
		wrong, f := colour.Wrong(x.s, x.trials)
		none, late := api.OK, api.ErrTwice
		if x.wrong != nil {
			none, late = api.ErrState, api.OK
		}
		if !slices.Equal(hot, x.heats) || !slices.Equal(stretch, x.stretch) || e != none {
			t.Error(name, hot, stretch, e)
		}
		if !slices.Equal(wrong, x.wrong) || f != late {
			t.Error(name, wrong, f)
		}
	}
}
