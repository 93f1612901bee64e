package letter_test

import (
	"math"
	"slices"
	"testing"

	"smalto/api"
	"smalto/letter"
)

// only returns one error for some functions, and none for all others.
func only(e api.Errno, of ...int) (out [functions]api.Errno) {
	for _, i := range of {
		out[i] = e
	}
	return out
}

// same returns one error for all functions.
func same(e api.Errno) (out [functions]api.Errno) {
	for i := range out {
		out[i] = e
	}
	return out
}

// bad returns arguments of which all but the case are wrong.
func bad(c api.LetterCase) arguments {
	return arguments{
		c: c, word: list(-1), gaps: list(-1, -1), at: -1, words: make([][]int, 9), plates: make([]int, 9), most: -1,
		blotted: list(-2), measured: span(9, 8),
	}
}

// P4.1, P1: all functions have the errors of the case first, whatever else is wrong, and nothing else with them.
func TestBadCases(t *testing.T) {
	narrow, twice := widths(10, 10, 0, 8), pairs(pair(0, 1, 3), pair(0, 1, 2))
	eleven := pairs(slices.Repeat([]api.LetterPair{pair(0, 1, 3)}, 11)...)
	for name, x := range map[string]struct {
		c api.LetterCase
		e api.Errno
	}{
		"nothing":           {api.LetterCase{}, api.ErrForm},
		"no letters":        {example(widths()), api.ErrForm},
		"nine letters":      {example(widths(1, 2, 3, 4, 5, 6, 7, 8, 9)), api.ErrForm},
		"very many letters": {example(widths(slices.Repeat(list(1), 1000)...)), api.ErrForm},
		"width 0":           {example(narrow), api.ErrForm},
		"width 31":          {example(widths(10, 31, 3, 8)), api.ErrForm},
		"width -1":          {example(widths(-1, 10, 3, 8)), api.ErrForm},
		"the last width":    {example(widths(10, 10, 3, 31)), api.ErrForm},
		"width great":       {example(widths(10, 10, 3, math.MaxInt)), api.ErrForm},
		"width small":       {example(widths(10, 10, 3, math.MinInt)), api.ErrForm},
		"rim -1":            {example(rim(-1)), api.ErrForm},
		"rim 21":            {example(rim(21)), api.ErrForm},
		"rim great":         {example(rim(math.MaxInt)), api.ErrForm},
		"least -1":          {example(least(-1)), api.ErrForm},
		"least 11":          {example(least(11)), api.ErrForm},
		"least small":       {example(least(math.MinInt)), api.ErrForm},
		"blank -1":          {example(blank(-1)), api.ErrForm},
		"blank 31":          {example(blank(31)), api.ErrForm},
		"blank great":       {example(blank(math.MaxInt)), api.ErrForm},
		"eleven pairs":      {example(eleven), api.ErrLong},
		"very many pairs":   {example(pairs(make([]api.LetterPair, 1000)...)), api.ErrLong},
		"form, eleven":      {example(narrow, eleven), api.ErrForm},
		"form, a pair":      {example(narrow, pairs(pair(9, 9, 9))), api.ErrForm},
		"form, twice":       {example(narrow, twice), api.ErrForm},
		"eleven, a pair":    {example(pairs(slices.Repeat([]api.LetterPair{pair(9, 9, 9)}, 11)...)), api.ErrLong},
		"A -1":              {example(pairs(pair(-1, 0, 1))), api.ErrArg},
		"A 4":               {example(pairs(pair(4, 0, 1))), api.ErrArg},
		"A of no letter":    {example(widths(1), pairs(pair(1, 0, 1))), api.ErrArg},
		"A great":           {example(pairs(pair(math.MaxInt, 0, 1))), api.ErrArg},
		"B -1":              {example(pairs(pair(0, -1, 1))), api.ErrArg},
		"B 4":               {example(pairs(pair(0, 4, 1))), api.ErrArg},
		"B small":           {example(pairs(pair(0, math.MinInt, 1))), api.ErrArg},
		"More 6":            {example(pairs(pair(0, 0, 6))), api.ErrArg},
		"More -6":           {example(pairs(pair(0, 0, -6))), api.ErrArg},
		"More great":        {example(pairs(pair(0, 0, math.MaxInt))), api.ErrArg},
		"More small":        {example(pairs(pair(0, 0, math.MinInt))), api.ErrArg},
		"the last pair":     {example(pairs(pair(0, 1, 3), pair(1, 0, 3), pair(3, 1, 6))), api.ErrArg},
		"a pair, twice":     {example(pairs(pair(0, 1, 3), pair(0, 1, 3), pair(3, 1, 6))), api.ErrArg},
		"a bad pair twice":  {example(pairs(pair(0, 4, 3), pair(0, 4, 3))), api.ErrArg},
		"twice":             {example(twice), api.ErrTwice},
		"twice as it was":   {example(pairs(pair(0, 1, 3), pair(0, 1, 3))), api.ErrTwice},
		"twice, apart":      {example(pairs(pair(0, 1, 3), pair(1, 0, 3), pair(0, 1, 4))), api.ErrTwice},
		"twice, the last":   {example(pairs(pair(0, 1, 3), pair(2, 2, 3), pair(2, 2, 0))), api.ErrTwice},
		"twice of ten":      {example(pairs(pair(0, 0, 1), pair(0, 1, 1), pair(0, 2, 1), pair(0, 3, 1), pair(1, 0, 1), pair(1, 1, 1), pair(1, 2, 1), pair(1, 3, 1), pair(2, 0, 1), pair(0, 0, 1))), api.ErrTwice},
	} {
		for _, a := range []arguments{bad(x.c), {c: x.c}} {
			errs, results := a.all()
			if errs != same(x.e) || !zeroWith(errs, results) {
				t.Error(name, errs, results)
			}
		}
	}
}

// P4.1, R7: each limit can be reached.
func TestGoodCases(t *testing.T) {
	ten := pairs(pair(0, 0, 5), pair(0, 1, -5), pair(0, 2, 0), pair(0, 3, 1), pair(1, 0, 1), pair(1, 1, 1), pair(1, 2, 1), pair(1, 3, 1), pair(2, 0, 1), pair(3, 3, 1))
	for i, c := range []api.LetterCase{
		example(), example(ten), example(pairs()), free(1), free(30), free(30, 1, 30, 1, 30, 1, 30, 1),
		example(rim(0), least(0), blank(0)), example(rim(20), least(10), blank(30)), example(ten, rim(20), least(10), blank(30)),
		changed(free(1, 2, 3, 4, 5, 6, 7, 8), pairs(pair(7, 7, 5), pair(7, 0, -5), pair(0, 7, -5))),
	} {
		if e := letter.Check(c); e != api.OK {
			t.Error(i, e)
		}
		if need, e := letter.Need(c, list(0)); need != 2*c.Rim+c.Widths[0] || e != api.OK {
			t.Error(i, need, e)
		}
	}
}

// The arguments of other tests are right but for what the tests change.
func TestFine(t *testing.T) {
	errs, results := fine().all()
	if errs != only(api.OK) || slices.ContainsFunc(results, isZero) {
		t.Error(errs, results)
	}
}

// P4.1, P4.7, P4.8, P4.10: a word that is none is an error of the form, whatever comes after it; blots are letters of Can alone.
func TestBadWords(t *testing.T) {
	of := list(ofNeed, ofLooks, ofLay, ofLeft, ofWidest, ofWrong)
	for i, word := range [][]int{nil, {4}, {-1}, {-2}, {0, 1, 2, 4}, {4, 1, 2, 3}, {0, 1, -1, 3}, {0, math.MaxInt, 2, 3}, {0, 1, math.MinInt, 3}, {0, 1, 2, 3, 0, 1, 2, 3}, make([]int, 1000)} {
		a, b := fine(), fine()
		a.word = word
		b.word, b.gaps, b.length, b.short, b.at, b.most = word, list(-1), 0, 401, -1, -1
		b.blotted, b.words = nil, nil
		if errs, results := a.all(); errs != only(api.ErrForm, of...) || !zeroWith(errs, results) {
			t.Error(i, errs, results)
		}
		errs, results := b.all()
		for _, f := range of {
			if errs[f] != api.ErrForm || !zeroWith(errs, results) {
				t.Error(i, f, errs, results)
			}
		}
		for _, words := range [][][]int{{word}, {list(0), list(1), word}, {word, list(0)}, {list(0), list(0), list(0), list(0), word}} {
			c, d := fine(), fine()
			c.words, d.words, d.length, d.plates = words, words, 0, list(0)
			for _, x := range []arguments{c, d} {
				errs, results := x.all()
				if errs[ofLines] != api.ErrForm || errs[ofPick] != api.ErrForm || !zeroWith(errs, results) {
					t.Error(i, words, errs, results)
				}
			}
		}
	}
}

// P4.10: letters or blots are a word, nothing else is.
func TestBadBlots(t *testing.T) {
	for i, word := range [][]int{nil, {4}, {-2}, {0, 1, 2, 4}, {-1, -1, -1, -2}, {-1, 4, 0, 0}, {-1, math.MinInt, 0, 0}, {-1, math.MaxInt, 0, 0}, {0, 1, 2, 3, 0, 1, 2, -1}, slices.Repeat(list(-1), 8), make([]int, 1000)} {
		a, b := fine(), fine()
		a.blotted = word
		b.blotted, b.gaps, b.measured = word, make([]int, max(len(word)-1, 0)), span(0, 0)
		errs, results := a.all()
		if errs != only(api.ErrForm, ofCan) || !zeroWith(errs, results) {
			t.Error(i, errs, results)
		}
		if errs, results = b.all(); errs[ofCan] != api.ErrForm || !zeroWith(errs, results) {
			t.Error(i, errs, results)
		}
	}
}

// P4.1, P4.10: gaps that are none of the word are an error of the form, whatever comes after them.
func TestBadGaps(t *testing.T) {
	for i, gaps := range [][]int{nil, {2, 5}, {2, 5, 6, 7}, {-1, 5, 6}, {2, 5, -1}, {401, 5, 6}, {2, 5, 401}, {2, math.MaxInt, 6}, {2, math.MinInt, 6}, make([]int, 1000)} {
		a, b := fine(), fine()
		a.gaps = gaps
		b.gaps, b.most, b.blotted, b.measured = gaps, -1, slices.Repeat(list(api.LetterBlot), 4), span(0, 0)
		for _, x := range []arguments{a, b} {
			if errs, results := x.all(); errs != only(api.ErrForm, ofLooks, ofWrong, ofCan) || !zeroWith(errs, results) {
				t.Error(i, errs, results)
			}
		}
	}
	single := fine()
	single.word, single.blotted, single.gaps = list(0), list(-1), list(1)
	if errs, _ := single.all(); errs[ofLooks] != api.ErrForm || errs[ofWrong] != api.ErrForm || errs[ofCan] != api.ErrForm {
		t.Error(errs)
	}
}

// P4.1, P4.4 to P4.8: a length that is none of a plate is an error, before that nothing goes.
func TestBadLengths(t *testing.T) {
	for _, length := range list(0, -1, 401, math.MaxInt, math.MinInt) {
		a := fine()
		a.length, a.short = length, length
		if errs, results := a.all(); errs != only(api.ErrRange, ofLay, ofLeft, ofWidest, ofLines) || !zeroWith(errs, results) {
			t.Error(length, errs, results)
		}
		for i, plates := range [][]int{{length}, {length, 40, 25, 30}, {40, 25, 30, 50, 50, length}} {
			b := fine()
			b.plates = plates
			if errs, results := b.all(); errs != only(api.ErrRange, ofPick) || !zeroWith(errs, results) {
				t.Error(length, i, errs, results)
			}
			if pick, e := letter.Pick(b.c, nil, plates); len(pick) != 0 || e != api.ErrRange {
				t.Error(length, i, pick, e)
			}
		}
	}
}

// P4.6: a place that the word has not is an error, before the length.
func TestBadPlaces(t *testing.T) {
	for _, at := range list(-1, 4, 7, math.MaxInt, math.MinInt) {
		for _, length := range list(54, 1, 0, 401) {
			a := fine()
			a.at = at
			if width, e := letter.Widest(a.c, a.word, at, length); width != 0 || e != api.ErrNone {
				t.Error(at, length, width, e)
			}
		}
	}
	if width, e := letter.Widest(example(), list(0), 1, 100); width != 0 || e != api.ErrNone {
		t.Error(width, e)
	}
	if width, e := letter.Widest(example(), list(0), 0, 0); width != 0 || e != api.ErrRange {
		t.Error(width, e)
	}
}

// P4.7, P4.8: no words, and too many words or plates, before all other errors of these functions.
func TestBadLists(t *testing.T) {
	for _, length := range list(54, 1, 0, 401) {
		if begins, rest, e := letter.Lines(example(), nil, length); len(begins) != 0 || rest != 0 || e != api.ErrNone {
			t.Error(length, begins, rest, e)
		}
	}
	for _, many := range list(6, 7, 1000) {
		for _, word := range [][]int{{0}, nil, {9}} {
			a := fine()
			a.words = slices.Repeat(lists(word), many)
			for _, b := range []arguments{a, {c: a.c, words: a.words, plates: list(0)}} {
				errs, results := b.all()
				if errs[ofLines] != api.ErrLong || errs[ofPick] != api.ErrLong || !zeroWith(errs, results) {
					t.Error(many, word, errs, results)
				}
			}
		}
	}
	for _, plate := range list(40, 0, 401) {
		for _, words := range [][][]int{nil, fine().words, {nil}, slices.Repeat(lists(list(0)), 6)} {
			for _, many := range list(7, 1000) {
				if pick, e := letter.Pick(example(), words, slices.Repeat(list(plate), many)); len(pick) != 0 || e != api.ErrLong {
					t.Error(plate, words, many, pick, e)
				}
			}
		}
	}
}

// P4.9: most is out of its range, before that all gaps look alike.
func TestBadMost(t *testing.T) {
	for _, most := range list(-1, 401, math.MaxInt, math.MinInt) {
		for _, gaps := range [][]int{{2, 5, 9}, {2, 5, 5}} {
			if wrong, e := letter.Wrong(example(), list(0, 1, 2, 3), gaps, most); len(wrong) != 0 || e != api.ErrRange {
				t.Error(most, gaps, wrong, e)
			}
		}
		if wrong, e := letter.Wrong(example(), list(0), nil, most); len(wrong) != 0 || e != api.ErrRange {
			t.Error(most, wrong, e)
		}
	}
}

// P4.10: more blots than there may be, before the length; a length that is none, before that there are no such letters.
func TestBadMeasured(t *testing.T) {
	for _, length := range []api.Span{span(0, 5), span(-1, 5), span(5, 401), span(401, 401), span(6, 5), span(400, 1), span(0, 0), span(math.MinInt, math.MaxInt), span(math.MaxInt, math.MinInt)} {
		for _, word := range [][]int{{0, -1, 2, 3}, {0, 1, 2, 3}, {-1, 0, 0, -1}, {-1, -1, 3, 3}} {
			if can, e := letter.Can(example(), word, list(2, 5, 9), length); len(can) != 0 || e != api.ErrRange {
				t.Error(length, word, can, e)
			}
		}
		for _, word := range [][]int{{-1, -1, -1, 3}, {-1, -1, 0, -1}, {-1, -1, -1, -1}} {
			if can, e := letter.Can(example(), word, list(2, 5, 9), length); len(can) != 0 || e != api.ErrFull {
				t.Error(length, word, can, e)
			}
		}
	}
	if can, e := letter.Can(example(), list(-1, -1, -1), list(2, 5), span(1, 400)); len(can) != 0 || e != api.ErrFull {
		t.Error(can, e)
	}
}
