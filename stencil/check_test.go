package stencil_test

import (
	"math"
	"slices"
	"testing"

	"smalto/api"
	"smalto/stencil"
)

// withSet are all functions, as all of them have an alphabet; the others are those with some other argument.
var (
	withSet   = list(ofCheck, ofWays, ofFewest, ofMeant, ofAsk, ofLay, ofLack, ofCut, ofWhose, ofMixed)
	withSign  = list(ofWays, ofFewest)
	withMeant = list(ofMeant, ofAsk)
	withCount = list(ofLay, ofLack, ofCut)
	withCases = list(ofWhose, ofMixed)
)

// only returns one error for some functions, and none for all others.
func only(e api.Errno, of ...int) (out [functions]api.Errno) {
	for _, i := range of {
		out[i] = e
	}
	return out
}

// wrongNumbers returns numbers that are not from low to high.
func wrongNumbers(low, high int) []int {
	return list(low-1, high+1, -high-2, math.MinInt, math.MaxInt)
}

// check reports whether just some functions return an error, and nothing else with it.
func check(t *testing.T, a arguments, e api.Errno, of ...int) {
	t.Helper()
	if errs, results := a.all(); errs != only(e, of...) || !zeroWith(errs, results) {
		t.Error(a, errs, results)
	}
}

// lost returns arguments with an alphabet, of which all else is wrong.
func lost(s api.StencilSet) arguments {
	six := slices.Repeat(lists(list(9)), 6)
	return arguments{s: s, word: nil, sign: list(0), words: six, most: -1, count: list(-1), laid: nil, lacking: list(-1), cut: six, cases: six, heap: nil, lost: -1}
}

// The arguments of other tests are right but for what the tests change.
func TestFine(t *testing.T) {
	errs, results := fine().all()
	if errs != only(api.OK) || slices.ContainsFunc(results, isZero) {
		t.Error(errs, results)
	}
}

// badSets returns alphabets by their errors.
func badSets() map[api.Errno][]api.StencilSet {
	out := map[api.Errno][]api.StencilSet{}
	nine := slices.Repeat(pairs(pair(9, 9)), 9)
	for _, many := range wrongNumbers(1, api.MaxStencilLetters) {
		out[api.ErrForm] = append(out[api.ErrForm], letters(many, nil, nil), letters(many, nine, nil), letters(many, pairs(pair(0, 0), pair(0, 0)), nine), letters(many, pairs(pair(0, 1)), pairs(pair(-1, 1))))
	}
	out[api.ErrLong] = []api.StencilSet{
		letters(8, nine, nil), letters(8, nil, nine), letters(8, make([]api.StencilPair, 9), nil), letters(8, nil, slices.Repeat(pairs(pair(0, 1)), 9)),
		letters(8, nil, make([]api.StencilPair, 1000)), letters(1, make([]api.StencilPair, 1000), pairs(pair(0, 0))), letters(1, pairs(pair(1, 1)), nine), letters(1, nine, nine),
	}
	for _, n := range wrongNumbers(0, 4) {
		for _, p := range pairs(pair(n, 0), pair(0, n), pair(n, n)) {
			out[api.ErrArg] = append(out[api.ErrArg],
				letters(5, pairs(p), nil), letters(5, nil, pairs(p)), letters(5, pairs(pair(0, 1), pair(1, 2), p), nil), letters(5, pairs(p, pair(0, 0), pair(0, 0)), nil),
				letters(5, nil, pairs(pair(0, 1), p)), letters(5, pairs(pair(0, 1), pair(1, 1)), pairs(p, pair(0, 1))),
			)
		}
	}
	for _, n := range list(0, 1, 4) {
		out[api.ErrArg] = append(out[api.ErrArg], letters(5, nil, pairs(pair(n, n))), letters(5, pairs(pair(n, n), pair(n, n)), pairs(pair(0, 1), pair(n, n))))
	}
	out[api.ErrArg] = append(out[api.ErrArg], letters(1, nil, pairs(pair(0, 0))), letters(1, pairs(pair(0, 1)), nil))
	for _, l := range [][]api.StencilPair{
		{pair(0, 0), pair(0, 0)}, {pair(0, 1), pair(0, 1)}, {pair(0, 1), pair(1, 0)}, {pair(0, 1), pair(1, 2)}, {pair(0, 1), pair(2, 1)}, {pair(1, 0), pair(2, 1)}, {pair(0, 1), pair(0, 2)},
		{pair(0, 1), pair(1, 1)}, {pair(0, 0), pair(0, 1)}, {pair(1, 1), pair(0, 1)}, {pair(0, 1), pair(2, 3), pair(4, 4), pair(4, 1)}, slices.Repeat(pairs(pair(3, 3)), 8),
	} {
		out[api.ErrTwice] = append(out[api.ErrTwice], letters(5, l, nil), letters(5, l, pairs(pair(0, 1), pair(0, 1))))
	}
	return out
}

// P7.1, P1: all functions have the errors of the alphabet first, whatever else is wrong, and nothing else with them.
func TestBadSets(t *testing.T) {
	for e, l := range badSets() {
		for _, s := range l {
			a := fine()
			a.s = s
			check(t, a, e, withSet...)
			check(t, lost(s), e, withSet...)
		}
	}
}

// P7.1, R7: each limit can be reached, and pairs of letters that are alike can stand twice.
func TestGoodSets(t *testing.T) {
	var own, alike []api.StencilPair
	for n := range 8 {
		own, alike = append(own, pair(n, n)), append(alike, pair(n, (n+1)%8))
	}
	for i, s := range []api.StencilSet{
		example(), letters(1, nil, nil), letters(8, nil, nil), letters(1, own[:1], nil), letters(8, own, alike), letters(8, pairs(pair(0, 7), pair(6, 1), pair(3, 3)), nil),
		letters(2, nil, slices.Repeat(pairs(pair(0, 1)), 8)), letters(2, pairs(pair(1, 0)), pairs(pair(0, 1), pair(1, 0))), letters(3, nil, pairs(pair(0, 1), pair(1, 2), pair(2, 0))),
	} {
		if e := stencil.Check(s); e != api.OK {
			t.Error(i, e)
		}
		if l, e := stencil.Ways(s, list(0), list(0)); len(l) != 1 || l[0][0] != right || e != api.OK {
			t.Error(i, l, e)
		}
	}
}

// P7.1: too many words, or cases, are the next error, before those of their form.
func TestTooMany(t *testing.T) {
	six := slices.Repeat(lists(list(4, 3, 0)), 6)
	for _, l := range [][][]int{six, slices.Repeat(lists(list(9)), 6), make([][]int, 6), make([][]int, 1000), append(lists(nil), six...)} {
		for _, bad := range []bool{false, true} {
			a := fine()
			a.words = l
			if bad {
				a.read, a.most = list(5), -1
			}
			check(t, a, api.ErrLong, withMeant...)
			b := fine()
			b.cut = l
			check(t, b, api.ErrLong, ofCut)
			c := lost(example())
			c.cut = l
			if errs, results := c.all(); errs[ofCut] != api.ErrLong || !zeroWith(errs, results) {
				t.Error(l, errs, results)
			}
		}
	}
	five := slices.Repeat(lists(list(1, 1, 1, 1, 1)), 5)
	for _, l := range [][][]int{five, slices.Repeat(lists(list(9)), 5), make([][]int, 5), make([][]int, 1000), append(lists(nil), five...)} {
		for _, bad := range []bool{false, true} {
			a := fine()
			a.cases = l
			if bad {
				a.heap, a.lost = list(5), -1
			}
			check(t, a, api.ErrLong, withCases...)
		}
	}
}

// notWords returns lists that are no words of the example.
func notWords() [][]int {
	out := lists(nil, list(), make([]int, 7), make([]int, 1000))
	for _, n := range append(wrongNumbers(0, 4), unread) {
		out = append(out, list(n), list(n, 0, 0), list(4, 3, n), list(0, 1, 2, 3, 4, n))
	}
	return out
}

// P7.1: words that are none are the next error, each of the functions that have it, before their own errors.
func TestBadWords(t *testing.T) {
	for _, l := range notWords() {
		a := fine()
		a.word, a.sign = l, make([]int, len(l))
		check(t, a, api.ErrForm, withSign...)
		for _, most := range list(2, -1, 13, 0) {
			for _, words := range [][][]int{{l}, append(fine().words, l), append(lists(l), fine().words...), slices.Repeat(lists(l), 5)} {
				b := fine()
				b.words, b.most = words, most
				check(t, b, api.ErrForm, withMeant...)
				c := fine()
				c.cut = words
				check(t, c, api.ErrForm, ofCut)
			}
		}
		d := fine()
		d.laid = l
		check(t, d, api.ErrForm, ofLay)
		d.laid, d.lacking = fine().laid, l
		check(t, d, api.ErrForm, ofLack)
	}
}

// P7.1: signs that are none, or not as long as the word.
func TestBadSigns(t *testing.T) {
	bad := lists(nil, list(), make([]int, 7), make([]int, 1000))
	for _, n := range wrongNumbers(unread, 4) {
		bad = append(bad, list(n), list(n, 3, 4), list(1, 3, n), list(1, n, 4))
	}
	for _, l := range bad {
		a := fine()
		a.sign = l
		check(t, a, api.ErrForm, withSign...)
		for _, most := range list(2, -1, 13, 0) {
			b := fine()
			b.read, b.most = l, most
			check(t, b, api.ErrForm, withMeant...)
			b.words = nil
			check(t, b, api.ErrForm, withMeant...)
		}
	}
	for _, l := range lists(list(1), list(1, 3), list(1, 3, 4, 0), list(1, 3, 4, unread, 0, 0)) {
		a := fine()
		a.sign = l
		check(t, a, api.ErrForm, withSign...)
		b := fine()
		b.read = l
		check(t, b, api.ErrNone, withMeant...)
	}
}

// P7.4, P7.5: how many faults there are at most is looked at before the words.
func TestBadMost(t *testing.T) {
	for _, n := range wrongNumbers(0, api.MaxStencilFaults) {
		for _, words := range [][][]int{fine().words, nil, {list(0)}, fine().words[:1]} {
			a := fine()
			a.words, a.most = words, n
			check(t, a, api.ErrRange, withMeant...)
		}
	}
}

// P7.5: Ask alone has an error if all words are left.
func TestNothingToAsk(t *testing.T) {
	for _, words := range [][][]int{{list(4, 3, 0)}, {list(4, 3, 0), list(4, 3, 0)}, {list(4, 3, 2), list(4, 3, 0)}} {
		a := fine()
		a.words = words
		check(t, a, api.ErrTwice, ofAsk)
	}
}

// P7.1: counts that are none, of a case and of a heap.
func TestBadCounts(t *testing.T) {
	bad := func(most int) [][]int {
		out := lists(nil, list(), list(1), list(1, 0, 1, 1), list(1, 0, 1, 1, 1, 0), make([]int, 8), make([]int, 1000))
		for _, n := range wrongNumbers(0, most) {
			out = append(out, list(n, 0, 1, 1, 1), list(1, 0, n, 1, 1), list(1, 0, 1, 1, n))
		}
		return out
	}
	for _, l := range bad(api.MaxStencilCount) {
		a := fine()
		a.count = l
		check(t, a, api.ErrForm, withCount...)
		for _, lost := range list(2, -1, 21, 0) {
			for _, cases := range [][][]int{{l}, append(owners(), l), append(lists(l), owners()...)} {
				b := fine()
				b.cases, b.lost = cases, lost
				check(t, b, api.ErrForm, withCases...)
			}
		}
	}
	for _, l := range bad(api.MaxStencilLost) {
		for _, lost := range list(2, -1, 21, 0) {
			a := fine()
			a.heap, a.lost = l, lost
			check(t, a, api.ErrForm, withCases...)
			a.cases = nil
			check(t, a, api.ErrForm, withCases...)
		}
	}
}

// P7.9, P7.10: how many stencils are lost at most is looked at before the cases.
func TestBadLost(t *testing.T) {
	for _, n := range wrongNumbers(0, api.MaxStencilLost) {
		for _, cases := range [][][]int{owners(), nil, owners()[:1]} {
			a := fine()
			a.cases, a.lost = cases, n
			check(t, a, api.ErrRange, withCases...)
		}
	}
}

// P7.6, P7.7: Lay has an error if there is no such list, Lack if there is one.
func TestLayOrLack(t *testing.T) {
	a := fine()
	a.laid = a.lacking
	check(t, a, api.ErrNone, ofLay)
	a = fine()
	a.lacking = a.laid
	check(t, a, api.ErrTwice, ofLack)
}

// P7.1, R7: words, signs, counts, words and cases of the limits are valid.
func TestGoodArguments(t *testing.T) {
	s := letters(8, nil, nil)
	word := list(7, 0, 7, 0, 7, 0)
	if l, e := stencil.Ways(s, word, list(unread, unread, 7, 7, 0, 0)); len(l) != 6 || e != api.OK {
		t.Error(l, e)
	}
	if l, e := stencil.Meant(s, slices.Repeat(lists(word), 5), word, 0); len(l) != 5 || e != api.OK {
		t.Error(l, e)
	}
	full, heap := list(5, 0, 0, 0, 0, 0, 0, 5), list(20, 0, 0, 0, 0, 0, 0, 20)
	if l, e := stencil.Lay(s, full, word); !slices.Equal(l, word) || e != api.OK {
		t.Error(l, e)
	}
	if l, e := stencil.Cut(s, full, slices.Repeat(lists(make([]int, 6)), 5)); !slices.Equal(l, list(1, 0, 0, 0, 0, 0, 0, 0)) || e != api.OK {
		t.Error(l, e)
	}
	if l, e := stencil.Whose(s, slices.Repeat(lists(full), 4), heap, 0); len(l) != 1 || !slices.Equal(l[0], list(0, 1, 2, 3)) || e != api.OK {
		t.Error(l, e)
	}
}
