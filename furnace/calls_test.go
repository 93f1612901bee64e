package furnace_test

import (
	"slices"
	"testing"

	"smalto/api"
	"smalto/furnace"
)

// row returns a furnace of places that can be anything from 0 to 9 degrees.
func row(many int, changes ...change) api.FurnaceOven {
	return bare(slices.Repeat(spans(span(0, 9)), many), changes...)
}

// P2.2, P2.5, P2.9, with examples 1, 3 and 6.
func TestHeats(t *testing.T) {
	d, g, n := api.FurnaceDull, api.FurnaceGood, api.FurnaceRan
	first := spans(span(760, 800), span(730, 799), span(710, 789))
	for name, x := range map[string]struct {
		o                          api.FurnaceOven
		heats                      []api.Span
		surely, possibly, needless []int
	}{
		"example 1, 3, 6":      {oven(), first, nil, list(0, 1, 2), nil},
		"example 6, needless":  {oven(withCone(0, 750, true)), first, nil, list(0, 1, 2), list(2)},
		"one place":            {row(1), spans(span(0, 9)), list(0), list(0), nil},
		"two places":           {row(2), spans(span(0, 9), span(0, 9)), nil, list(0, 1), nil},
		"apart":                {bare(spans(span(0, 4), span(5, 9))), spans(span(0, 4), span(5, 9)), list(1), list(1), nil},
		"as hot at most":       {bare(spans(span(0, 5), span(5, 9))), spans(span(0, 5), span(5, 9)), list(1), list(0, 1), nil},
		"as hot":               {row(2, withPair(0, 1, 0)), spans(span(0, 9), span(0, 9)), list(0, 1), list(0, 1), nil},
		"as hot, bent":         {row(2, withPair(0, 1, 0), withCone(1, 4, true)), spans(span(4, 9), span(4, 9)), list(0, 1), list(0, 1), nil},
		"pairs both ways":      {row(2, withPair(1, 0, 3), withPair(0, 1, 2), withCone(1, 8, true)), spans(span(6, 9), span(8, 9)), nil, list(0, 1), nil},
		"over two others":      {row(3, withPair(0, 1, 2), withPair(2, 1, 1), withCone(0, 8, true)), spans(span(8, 9), span(6, 9), span(5, 9)), nil, list(0, 1, 2), nil},
		"over four others":     {row(5, withPair(4, 3, 1), withPair(1, 2, 1), withPair(3, 2, 1), withPair(0, 1, 1), withCone(4, 1, false)), spans(span(0, 4), span(0, 3), span(0, 2), span(0, 1), span(0, 0)), nil, list(0, 1, 2, 3, 4), nil},
		"hottest by its pair":  {bare(spans(span(0, 9), span(3, 9), span(9, 9)), withPair(0, 1, 2)), spans(span(1, 9), span(3, 9), span(9, 9)), list(2), list(0, 1, 2), nil},
		"each two, not all":    {bare(spans(span(0, 3), span(2, 6), span(4, 4))), spans(span(0, 3), span(2, 6), span(4, 4)), nil, list(1, 2), nil},
		"bent":                 {row(1, withCone(0, 5, true)), spans(span(5, 9)), list(0), list(0), nil},
		"not bent":             {row(1, withCone(0, 5, false)), spans(span(0, 4)), list(0), list(0), nil},
		"dull":                 {row(1, withSign(0, 3, 6, d)), spans(span(0, 2)), list(0), list(0), nil},
		"good":                 {row(1, withSign(0, 3, 6, g)), spans(span(3, 5)), list(0), list(0), nil},
		"ran":                  {row(1, withSign(0, 3, 6, n)), spans(span(6, 9)), list(0), list(0), nil},
		"the least":            {row(1, withSign(0, 1, 6, d)), spans(span(0, 0)), list(0), list(0), nil},
		"the greatest":         {bare(spans(span(0, 1000)), withSign(0, 3, 1000, n)), spans(span(1000, 1000)), list(0), list(0), nil},
		"twice":                {row(1, withCone(0, 5, true), withCone(0, 5, true)), spans(span(5, 9)), list(0), list(0), list(0, 1)},
		"two ways":             {row(1, withCone(0, 5, true), withSign(0, 2, 5, n)), spans(span(5, 9)), list(0), list(0), list(0, 1)},
		"a weaker one":         {row(1, withCone(0, 4, true), withCone(0, 5, true)), spans(span(5, 9)), list(0), list(0), list(0)},
		"tells nothing":        {row(1, withCone(0, 10, false)), spans(span(0, 9)), list(0), list(0), list(0)},
		"told by another one":  {row(2, withPair(0, 1, 2), withCone(0, 7, true), withCone(1, 5, true)), spans(span(7, 9), span(5, 9)), nil, list(0, 1), list(1)},
		"needed elsewhere":     {row(2, withPair(0, 1, 2), withCone(0, 7, true), withCone(1, 6, true)), spans(span(7, 9), span(6, 9)), nil, list(0, 1), nil},
		"a sign behind a cone": {row(1, withSign(0, 2, 10, g), withCone(0, 3, true)), spans(span(3, 9)), list(0), list(0), list(1)},
	} {
		heats, e := furnace.Heats(x.o)
		surely, possibly, f := furnace.Hottest(x.o)
		needless, h := furnace.Needless(x.o)
		if !slices.Equal(heats, x.heats) || e != api.OK {
			t.Error(name, heats, e)
		}
		if !slices.Equal(surely, x.surely) || !slices.Equal(possibly, x.possibly) || f != api.OK {
			t.Error(name, surely, possibly, f)
		}
		if !slices.Equal(needless, x.needless) || h != api.OK {
			t.Error(name, needless, h)
		}
	}
}

// P2.3, with example 2.
func TestApart(t *testing.T) {
	for name, x := range map[string]struct {
		o    api.FurnaceOven
		a, b int
		want api.Span
	}{
		"example 2":            {oven(), 0, 2, span(-29, 50)},
		"example 2, turned":    {oven(), 2, 0, span(-50, 29)},
		"a pair":               {oven(), 0, 1, span(-30, 30)},
		"a pair, turned":       {oven(), 2, 1, span(-20, 20)},
		"the same place":       {oven(), 1, 1, span(0, 0)},
		"the last place":       {oven(), 2, 2, span(0, 0)},
		"nothing known":        {row(2), 0, 1, span(-9, 9)},
		"by their spans":       {bare(spans(span(2, 3), span(10, 14))), 0, 1, span(-12, -7)},
		"by a pair":            {bare(spans(span(0, 90), span(0, 95)), withPair(1, 0, 40)), 1, 0, span(-40, 40)},
		"by two pairs":         {bare(spans(span(0, 90), span(0, 90), span(0, 90)), withPair(1, 0, 3), withPair(1, 2, 4)), 0, 2, span(-7, 7)},
		"the narrower pair":    {bare(spans(span(0, 90), span(0, 90)), withPair(1, 0, 3), withPair(0, 1, 2)), 0, 1, span(-2, 2)},
		"by a cone":            {bare(spans(span(0, 90), span(0, 90)), withCone(0, 50, true), withCone(1, 50, false)), 0, 1, span(1, 90)},
		"by a cone and a pair": {bare(spans(span(0, 90), span(0, 90)), withPair(0, 1, 5), withCone(0, 50, true), withCone(1, 50, false)), 0, 1, span(1, 5)},
		"just known":           {bare(spans(span(7, 7), span(4, 4))), 1, 0, span(-3, -3)},
		"all degrees":          {bare(spans(span(0, 1000), span(0, 1000))), 1, 0, span(-1000, 1000)},
	} {
		if apart, e := furnace.Apart(x.o, x.a, x.b); apart != x.want || e != api.OK {
			t.Error(name, apart, e)
		}
	}
}

// P2.4, P2.6, with examples 3 and 4. The places of the first ware are those of Places.
func TestWares(t *testing.T) {
	three := bare(spans(span(10, 12), span(11, 14), span(20, 20)))
	for name, x := range map[string]struct {
		o                api.FurnaceOven
		l                []api.FurnaceWare
		surely, possibly []int
		fill             []int
	}{
		"example 3, 4":            {oven(), wares(ware(720, 810), ware(700, 795)), list(0, 1), list(0, 1, 2), list(0, 2)},
		"one degree less":         {oven(), wares(ware(720, 800)), list(1), list(0, 1, 2), list(1)},
		"two degrees less":        {oven(), wares(ware(720, 799)), nil, list(0, 1, 2), list(-1)},
		"not even possibly":       {oven(), wares(ware(801, 900)), nil, nil, list(-1)},
		"possibly, the greatest":  {oven(), wares(ware(800, 900)), nil, list(0), list(-1)},
		"possibly, the least":     {oven(), wares(ware(700, 711)), nil, list(2), list(-1)},
		"runs at the least":       {oven(), wares(ware(700, 710)), nil, nil, list(-1)},
		"surely, both ends":       {three, wares(ware(10, 15)), list(0, 1), list(0, 1), list(0)},
		"surely, one end":         {three, wares(ware(11, 15)), list(1), list(0, 1), list(1)},
		"surely, the other end":   {three, wares(ware(10, 14)), list(0), list(0, 1), list(0)},
		"one degree":              {three, wares(ware(20, 21)), list(2), list(2), list(2)},
		"all degrees":             {three, wares(ware(0, 1000)), list(0, 1, 2), list(0, 1, 2), list(0)},
		"the hottest never":       {bare(spans(span(1000, 1000))), wares(ware(0, 1000)), nil, nil, list(-1)},
		"the coldest":             {bare(spans(span(0, 0))), wares(ware(0, 1)), list(0), list(0), list(0)},
		"the first gives way":     {three, wares(ware(10, 15), ware(10, 13)), list(0, 1), list(0, 1), list(1, 0)},
		"the second gives way":    {three, wares(ware(10, 13), ware(10, 15)), list(0), list(0, 1), list(0, 1)},
		"both would":              {three, wares(ware(10, 15), ware(10, 15)), list(0, 1), list(0, 1), list(0, 1)},
		"the first has none":      {three, wares(ware(20, 21), ware(20, 21)), list(2), list(2), list(-1, 2)},
		"one has none":            {three, wares(ware(10, 15), ware(10, 15), ware(10, 15)), list(0, 1), list(0, 1), list(-1, 0, 1)},
		"the most, not the least": {three, wares(ware(0, 100), ware(10, 15), ware(10, 15)), list(0, 1, 2), list(0, 1, 2), list(2, 0, 1)},
		"four for three":          {three, wares(ware(0, 100), ware(0, 100), ware(20, 21), ware(10, 15)), list(0, 1, 2), list(0, 1, 2), list(-1, 0, 2, 1)},
		"one between":             {three, wares(ware(10, 13), ware(500, 600), ware(0, 100)), list(0), list(0, 1), list(0, -1, 1)},
		"five for five":           {row(5), wares(ware(0, 10), ware(0, 10), ware(0, 10), ware(0, 10), ware(0, 10)), list(0, 1, 2, 3, 4), list(0, 1, 2, 3, 4), list(0, 1, 2, 3, 4)},
	} {
		surely, possibly, e := furnace.Places(x.o, x.l[0])
		fill, f := furnace.Fill(x.o, x.l)
		if !slices.Equal(surely, x.surely) || !slices.Equal(possibly, x.possibly) || e != api.OK {
			t.Error(name, surely, possibly, e)
		}
		if !slices.Equal(fill, x.fill) || f != api.OK {
			t.Error(name, fill, f)
		}
	}
	if fill, e := furnace.Fill(oven(), nil); len(fill) != 0 || e != api.OK {
		t.Error(fill, e)
	}
}

// P2.7, with example 5.
func TestTurn(t *testing.T) {
	wide, hot := bare(spans(span(0, 1000))), bare(spans(span(990, 1000), span(5, 5)))
	for name, x := range map[string]struct {
		o    api.FurnaceOven
		l    []api.FurnaceSet
		want api.Span
		e    api.Errno
	}{
		"example 5":              {oven(), sets(set(0, 780, 830)), span(20, 29), api.OK},
		"example 5, two":         {oven(), sets(set(0, 780, 830), set(2, 780, 830)), span(0, 0), api.ErrNone},
		"both":                   {oven(), sets(set(0, 780, 830), set(2, 720, 820)), span(20, 29), api.OK},
		"the second is narrower": {oven(), sets(set(0, 780, 830), set(2, 735, 817)), span(25, 27), api.OK},
		"two at one place":       {oven(), sets(set(0, 780, 830), set(0, 750, 823)), span(20, 22), api.OK},
		"one degree":             {oven(), sets(set(0, 780, 821)), span(20, 20), api.OK},
		"no degree":              {oven(), sets(set(0, 780, 820)), span(0, 0), api.ErrNone},
		"down":                   {oven(), sets(set(1, 600, 700)), span(-130, -100), api.OK},
		"no wares":               {oven(), nil, span(-300, 300), api.OK},
		"all of it":              {bare(spans(span(500, 500))), sets(set(0, 200, 801)), span(-300, 300), api.OK},
		"one less":               {bare(spans(span(500, 500))), sets(set(0, 201, 800)), span(-299, 299), api.OK},
		"just up":                {bare(spans(span(100, 100))), sets(set(0, 400, 401)), span(300, 300), api.OK},
		"just down":              {bare(spans(span(400, 400))), sets(set(0, 100, 101)), span(-300, -300), api.OK},
		"too far up":             {bare(spans(span(100, 100))), sets(set(0, 401, 999)), span(0, 0), api.ErrNone},
		"too far down":           {bare(spans(span(400, 400))), sets(set(0, 0, 100)), span(0, 0), api.ErrNone},
		"beyond 1000":            {hot, sets(set(1, 105, 106)), span(100, 100), api.OK},
		"beyond 0":               {bare(spans(span(5, 5), span(300, 300))), sets(set(1, 0, 151)), span(-300, -150), api.OK},
		"back from 1000":         {hot, sets(set(0, 900, 1000)), span(-90, -1), api.OK},
		"wider than any ware":    {wide, sets(set(0, 0, 1000)), span(0, 0), api.ErrNone},
	} {
		if turn, e := furnace.Turn(x.o, x.l); turn != x.want || e != x.e {
			t.Error(name, turn, e)
		}
	}
}

// P2.8, with example 6.
func TestWrong(t *testing.T) {
	g, n := api.FurnaceGood, api.FurnaceRan
	for name, x := range map[string]struct {
		o    api.FurnaceOven
		want []int
		e    api.Errno
	}{
		"none":                     {oven(), nil, api.ErrTwice},
		"no notes":                 {row(2), nil, api.ErrTwice},
		"example 6":                {oven(withCone(0, 820, true)), list(2), api.OK},
		"the first of two":         {row(1, withCone(0, 5, true), withCone(0, 5, false)), list(0), api.OK},
		"one of three":             {row(1, withCone(0, 3, true), withCone(0, 5, true), withCone(0, 2, false)), list(2), api.OK},
		"two of three":             {row(1, withCone(0, 12, true), withCone(0, 5, true), withCone(0, 13, true)), list(0, 2), api.OK},
		"the signs' numbers":       {row(1, withSign(0, 1, 5, g), withSign(0, 5, 9, g), withCone(0, 5, true), withCone(0, 6, true)), list(2), api.OK},
		"a sign":                   {row(1, withCone(0, 2, true), withSign(0, 1, 5, n), withSign(0, 1, 5, g), withCone(0, 3, true)), list(2), api.OK},
		"two lists of two":         {row(1, withCone(0, 8, true), withCone(0, 7, true), withCone(0, 4, false), withCone(0, 3, false)), list(0, 1), api.OK},
		"two of five":              {row(1, withCone(0, 4, false), withCone(0, 8, true), withCone(0, 3, false), withCone(0, 7, true), withCone(0, 9, true)), list(0, 2), api.OK},
		"the smallest of several":  {row(2, withCone(0, 5, true), withCone(1, 5, true), withCone(0, 5, false), withCone(1, 5, false)), list(0, 1), api.OK},
		"in two places":            {row(3, withPair(0, 2, 1), withCone(0, 5, true), withCone(1, 5, true), withCone(2, 4, false), withCone(0, 8, true)), list(2), api.OK},
		"all of them":              {row(1, withCone(0, 10, true), withSign(0, 10, 11, g), withSign(0, 10, 11, n)), list(0, 1, 2), api.OK},
		"cannot be right, not one": {oven(dead), nil, api.ErrState},
		"nor with others":          {oven(dead, withCone(0, 820, true)), nil, api.ErrState},
		"all ten": {row(1, withCone(0, 10, true), withCone(0, 11, true), withCone(0, 12, true), withCone(0, 13, true), withCone(0, 14, true), withCone(0, 15, true),
			withSign(0, 10, 11, g), withSign(0, 11, 12, g), withSign(0, 12, 13, g), withSign(0, 13, 14, g)), list(0, 1, 2, 3, 4, 5, 6, 7, 8, 9), api.OK},
	} {
		if wrong, e := furnace.Wrong(x.o); !slices.Equal(wrong, x.want) || e != x.e {
			t.Error(name, wrong, e)
		}
	}
}

// P2.10, with example 7.
func TestTrial(t *testing.T) {
	for name, x := range map[string]struct {
		o                 api.FurnaceOven
		place, heat, left int
		e                 api.Errno
	}{
		"example 7":               {bare(spans(span(0, 10))), 0, 5, 5, api.OK},
		"two degrees":             {bare(spans(span(0, 1))), 0, 1, 0, api.OK},
		"at 1000":                 {bare(spans(span(999, 1000))), 0, 1000, 0, api.OK},
		"all degrees":             {bare(spans(span(0, 1000))), 0, 500, 500, api.OK},
		"an odd number":           {bare(spans(span(0, 9))), 0, 5, 4, api.OK},
		"nothing open":            {bare(spans(span(7, 7))), 0, 0, 0, api.ErrTwice},
		"nothing open, two":       {bare(spans(span(7, 7), span(9, 9)), withPair(0, 1, 5)), 0, 0, 0, api.ErrTwice},
		"nothing open any more":   {row(1, withCone(0, 5, true), withCone(0, 6, false)), 0, 0, 0, api.ErrTwice},
		"the second is wider":     {bare(spans(span(0, 3), span(0, 9))), 1, 5, 7, api.OK},
		"as wide":                 {row(2), 0, 5, 13, api.OK},
		"the first is known":      {bare(spans(span(7, 7), span(0, 1))), 1, 1, 0, api.OK},
		"as hot":                  {row(2, withPair(1, 0, 0)), 0, 5, 8, api.OK},
		"the middle one":          {row(3, withPair(0, 1, 1), withPair(1, 2, 1)), 1, 5, 14, api.OK},
		"after cones":             {row(1, withCone(0, 4, true), withCone(0, 9, false)), 0, 6, 2, api.OK},
		"as many cones as may be": {row(1, withCone(0, 1, true), withCone(0, 1, true), withCone(0, 1, true), withCone(0, 1, true), withCone(0, 1, true), withCone(0, 2, true)), 0, 6, 3, api.OK},
	} {
		place, heat, left, e := furnace.Trial(x.o)
		if place != x.place || heat != x.heat || left != x.left || e != x.e {
			t.Error(name, place, heat, left, e)
		}
	}
}
