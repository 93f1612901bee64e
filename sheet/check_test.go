package sheet_test

import (
	"math"
	"slices"
	"testing"

	"smalto/api"
	"smalto/sheet"
)

// only returns one error for some functions, and none for all others.
func only(e api.Errno, of ...int) (out [functions]api.Errno) {
	for _, i := range of {
		out[i] = e
	}
	return out
}

// but returns one error for all functions but some.
func but(e api.Errno, of ...int) (out [functions]api.Errno) {
	for i := range out {
		if !slices.Contains(of, i) {
			out[i] = e
		}
	}
	return out
}

// bad returns arguments of which all but the sheet and the plates are wrong.
func bad(r api.SheetRules, l []api.SheetPlate) arguments {
	return arguments{r: r, l: l, set: list(-1), piece: size(0, 0), cuts: cuts(upright(0, 5), upright(-1, 0))}
}

// P5.1, P1: all functions have the errors of the sheet first, whatever else is wrong, and nothing else with them.
func TestBadSheets(t *testing.T) {
	for i, r := range []api.SheetRules{
		{}, rules(0, 12, 1), rules(31, 12, 1), rules(-1, 12, 1), rules(math.MaxInt, 12, 1), rules(math.MinInt, 12, 1),
		rules(20, 0, 1), rules(20, 31, 1), rules(20, -1, 1), rules(20, math.MaxInt, 1), rules(20, math.MinInt, 1),
		rules(20, 12, -1), rules(20, 12, 4), rules(20, 12, math.MaxInt), rules(20, 12, math.MinInt),
	} {
		for _, l := range [][]api.SheetPlate{nil, four(), make([]api.SheetPlate, 6), plates(plate(0, 0, 0))} {
			for _, a := range []arguments{bad(r, l), {r: r, l: l, cuts: make([]api.SheetCut, 9)}, {r: r, l: l}} {
				errs, results := a.all()
				if errs != but(api.ErrForm) || !zeroWith(errs, results) {
					t.Error(i, a, errs, results)
				}
			}
		}
	}
}

// P5.1, P1: all functions but Pieces have the errors of plates next, whatever else is wrong.
func TestBadPlates(t *testing.T) {
	for name, x := range map[string]struct {
		l []api.SheetPlate
		e api.Errno
	}{
		"six plates":        {slices.Repeat(plates(plate(1, 1, 0)), 6), api.ErrLong},
		"very many plates":  {slices.Repeat(plates(plate(1, 1, 0)), 1000), api.ErrLong},
		"six bad plates":    {make([]api.SheetPlate, 6), api.ErrLong},
		"Long 0":            {plates(plate(0, 1, 0)), api.ErrArg},
		"Long 31":           {plates(plate(31, 1, 0)), api.ErrArg},
		"Long -1":           {plates(plate(-1, 1, 0)), api.ErrArg},
		"Long great":        {plates(plate(math.MaxInt, 1, 0)), api.ErrArg},
		"Long small":        {plates(plate(math.MinInt, 1, 0)), api.ErrArg},
		"High 0":            {plates(plate(1, 0, 0)), api.ErrArg},
		"High 31":           {plates(plate(1, 31, 0)), api.ErrArg},
		"High -1":           {plates(plate(1, -1, 0)), api.ErrArg},
		"High great":        {plates(plate(1, math.MaxInt, 0)), api.ErrArg},
		"High small":        {plates(plate(1, math.MinInt, 0)), api.ErrArg},
		"Rim -1":            {plates(plate(1, 1, -1)), api.ErrArg},
		"Rim 6":             {plates(plate(1, 1, 6)), api.ErrArg},
		"Rim great":         {plates(plate(1, 1, math.MaxInt)), api.ErrArg},
		"Rim small":         {plates(plate(1, 1, math.MinInt)), api.ErrArg},
		"with a Grain":      {plates(grain(1, 1, 6)), api.ErrArg},
		"the last of five":  {append(four(), plate(1, 31, 0)), api.ErrArg},
		"the first of five": {append(plates(plate(31, 1, 0)), four()...), api.ErrArg},
	} {
		for i, a := range []arguments{bad(example(), x.l), {r: example(), l: x.l, cuts: make([]api.SheetCut, 9)}, {r: example(), l: x.l}} {
			want := but(x.e)
			want[ofPieces] = []api.Errno{api.ErrNone, api.ErrLong, api.OK}[i]
			if errs, results := a.all(); errs != want || !zeroWith(errs, results) {
				t.Error(name, i, errs, results)
			}
		}
	}
}

// P5.1, R7: each limit can be reached.
func TestGoodSheets(t *testing.T) {
	for i, x := range []struct {
		r api.SheetRules
		l []api.SheetPlate
	}{
		{example(), four()}, {example(), nil}, {rules(1, 1, 0), nil}, {rules(30, 30, 3), nil}, {rules(1, 30, 3), plates(plate(1, 1, 0))},
		{rules(30, 1, 0), plates(grain(30, 30, 5), plate(30, 30, 5), grain(1, 1, 0), plate(30, 1, 5), plate(1, 30, 0))},
	} {
		if e := sheet.Check(x.r, x.l); e != api.OK {
			t.Error(i, e)
		}
		if l, e := sheet.Blanks(x.r, x.l); len(l) != len(x.l) || e != api.OK {
			t.Error(i, l, e)
		}
	}
}

// The arguments of other tests are right but for what the tests change.
func TestFine(t *testing.T) {
	errs, results := fine().all()
	if errs != only(api.OK) || slices.ContainsFunc(results, isZero) {
		t.Error(errs, results)
	}
}

// P5.1: a list that is no set is an error of the form, of Comes and Rest alone.
func TestBadSets(t *testing.T) {
	for i, set := range [][]int{
		{-1}, {4}, {0, 4}, {-1, 0}, {0, 0}, {1, 0}, {0, 2, 1}, {0, 1, 2, 3, 3}, {0, 1, 2, 3, 4}, {2, 2}, {math.MaxInt}, {math.MinInt},
		{0, math.MaxInt}, {math.MinInt, 0}, make([]int, 1000), slices.Repeat(list(0, 1, 2, 3), 1000),
	} {
		a := fine()
		a.set = set
		if errs, results := a.all(); errs != only(api.ErrForm, ofComes, ofRest) || !zeroWith(errs, results) {
			t.Error(i, errs, results)
		}
	}
	if _, e := sheet.Comes(example(), nil, list(0)); e != api.ErrForm {
		t.Error(e)
	}
	if _, _, e := sheet.Rest(example(), nil, list(0)); e != api.ErrForm {
		t.Error(e)
	}
	// That it does not come out of a sheet is looked at next.
	if _, _, e := sheet.Rest(example(), four(), list(3, 0)); e != api.ErrForm {
		t.Error(e)
	}
}

// P5.5: a piece out of its limits is an error of Most alone.
func TestBadPieces(t *testing.T) {
	for i, piece := range sizes(
		size(0, 0), size(0, 9), size(12, 0), size(31, 9), size(12, 31), size(-1, 9), size(12, -1),
		size(math.MaxInt, 9), size(12, math.MaxInt), size(math.MinInt, 9), size(12, math.MinInt), size(-12, -9),
	) {
		a := fine()
		a.piece = piece
		if errs, results := a.all(); errs != only(api.ErrRange, ofMost) || !zeroWith(errs, results) {
			t.Error(i, errs, results)
		}
	}
}

// P5.1: cuts are looked at one after another, but their number first.
func TestBadCuts(t *testing.T) {
	nine := slices.Repeat(cuts(across(0, 1)), 9)
	for name, x := range map[string]struct {
		l []api.SheetCut
		e api.Errno
	}{
		"nine cuts":               {nine, api.ErrLong},
		"nine bad ones":           {make([]api.SheetCut, 9), api.ErrLong},
		"very many":               {make([]api.SheetCut, 1000), api.ErrLong},
		"no such piece":           {cuts(upright(1, 5)), api.ErrNone},
		"piece -1":                {cuts(upright(-1, 5)), api.ErrNone},
		"piece great":             {cuts(upright(math.MaxInt, 5)), api.ErrNone},
		"piece small":             {cuts(across(math.MinInt, 5)), api.ErrNone},
		"no such piece yet":       {cuts(upright(0, 10), across(2, 6), across(0, 6)), api.ErrNone},
		"no piece, no cut":        {cuts(upright(1, 0)), api.ErrNone},
		"no cut, then no piece":   {cuts(upright(0, 0), upright(9, 1)), api.ErrRange},
		"no piece, then no cut":   {cuts(upright(9, 1), upright(0, 0)), api.ErrNone},
		"upright at 0":            {cuts(upright(0, 0)), api.ErrRange},
		"upright at -1":           {cuts(upright(0, -1)), api.ErrRange},
		"upright, nothing left":   {cuts(upright(0, 19)), api.ErrRange},
		"upright at its end":      {cuts(upright(0, 20)), api.ErrRange},
		"upright, far":            {cuts(upright(0, 21)), api.ErrRange},
		"upright at great":        {cuts(upright(0, math.MaxInt)), api.ErrRange},
		"upright at small":        {cuts(upright(0, math.MinInt)), api.ErrRange},
		"across at 0":             {cuts(across(0, 0)), api.ErrRange},
		"across at -1":            {cuts(across(0, -1)), api.ErrRange},
		"across, nothing left":    {cuts(across(0, 11)), api.ErrRange},
		"across at its end":       {cuts(across(0, 12)), api.ErrRange},
		"across at great":         {cuts(across(0, math.MaxInt)), api.ErrRange},
		"across at small":         {cuts(across(0, math.MinInt)), api.ErrRange},
		"of the first piece then": {cuts(upright(0, 10), upright(0, 9)), api.ErrRange},
		"of the second one":       {cuts(upright(0, 10), upright(1, 8)), api.ErrRange},
		"of the third one":        {cuts(upright(0, 10), across(1, 6), across(2, 4)), api.ErrRange},
		"the eighth":              {append(eight()[:7], across(8, 1)), api.ErrNone},
	} {
		a := fine()
		a.cuts = x.l
		if errs, results := a.all(); errs != only(x.e, ofPieces, ofTakes, ofSpoiled) || !zeroWith(errs, results) {
			t.Error(name, errs, results)
		}
	}
}

// eight returns as many cuts of the example's sheet as there may be.
func eight() []api.SheetCut {
	return cuts(upright(0, 16), upright(0, 14), upright(0, 12), upright(0, 10), upright(0, 8), upright(0, 6), upright(0, 4), across(7, 6))
}

// P5.1, R7: eight cuts can be made, as far at the edges as a piece of an inch is left on both sides.
func TestGoodCuts(t *testing.T) {
	for i, l := range [][]api.SheetCut{
		nil, eight(), cuts(upright(0, 1)), cuts(upright(0, 18)), cuts(across(0, 1)), cuts(across(0, 10)),
		cuts(upright(0, 10), upright(0, 8)), cuts(upright(0, 10), upright(1, 7)), cuts(upright(0, 10), across(1, 6), across(2, 3)),
	} {
		if after, e := sheet.Pieces(example(), l); len(after) != len(l)+1 || e != api.OK {
			t.Error(i, after, e)
		}
	}
	// Without a kerf a sheet of 2 by 1 is cut, one of 1 by 1 is not.
	if l, e := sheet.Pieces(rules(2, 1, 0), cuts(upright(0, 1))); !slices.Equal(l, sizes(size(1, 1), size(1, 1))) || e != api.OK {
		t.Error(l, e)
	}
	if l, e := sheet.Pieces(rules(1, 1, 0), cuts(upright(0, 1))); l != nil || e != api.ErrRange {
		t.Error(l, e)
	}
}
