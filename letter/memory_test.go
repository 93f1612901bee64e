package letter_test

import (
	"math/rand"
	"reflect"
	"slices"
	"testing"

	"smalto/api"
	"smalto/letter"
)

// spared returns a list with the same elements, and spare room that has others.
func spared[T any](l []T, spare T) []T {
	out := append(make([]T, 0, len(l)+3), l...)
	for range 3 {
		out = append(out, spare)
	}
	return out[:len(l)]
}

// spare returns arguments with spare room behind all lists.
func (a arguments) spare() arguments {
	a.c.Widths, a.c.Pairs = spared(a.c.Widths, 7), spared(a.c.Pairs, pair(2, 2, 5))
	a.word, a.gaps, a.plates, a.blotted = spared(a.word, 3), spared(a.gaps, 4), spared(a.plates, 20), spared(a.blotted, -1)
	words := make([][]int, len(a.words))
	for i, word := range a.words {
		words[i] = spared(word, 1)
	}
	a.words = spared(words, list(0))
	return a
}

// whole returns arguments with the spare room of their lists.
func (a arguments) whole() []any {
	words := slices.Clone(a.words[:cap(a.words)])
	for i, word := range words {
		words[i] = word[:cap(word)]
	}
	return []any{
		a.c.Widths[:cap(a.c.Widths)], a.c.Pairs[:cap(a.c.Pairs)], a.c.Rim, a.c.Least, a.c.Blank,
		a.word[:cap(a.word)], a.gaps[:cap(a.gaps)], a.plates[:cap(a.plates)], a.blotted[:cap(a.blotted)], words,
	}
}

// samples returns arguments of several kinds.
func samples() []arguments {
	out := slices.Repeat([]arguments{fine()}, 5)
	out[1].length, out[1].short = 53, 13
	out[2].at, out[2].words, out[2].plates = 0, lists(list(0), list(0), list(2), list(3)), list(20, 20, 18, 13)
	out[3].c, out[3].word, out[3].gaps, out[3].blotted = free(30, 1), list(0), nil, list(-1)
	out[4].length, out[4].short, out[4].most, out[4].measured = 12, 12, 400, span(1, 1)
	return out
}

// P2, R4: equal results for equal arguments, none of which is changed, nor what lies behind the end of a list.
func TestArgumentsStay(t *testing.T) {
	for i, x := range samples() {
		a := x.spare()
		errs, first := a.all()
		if !reflect.DeepEqual(a.whole(), x.spare().whole()) {
			t.Error(i, a.whole())
		}
		for range 20 {
			if again, results := x.spare().all(); again != errs || !reflect.DeepEqual(results, first) {
				t.Error(i, again, results, first)
			}
		}
	}
}

// fill writes over lists and their spare room.
func fill(x any, n int) {
	switch v := x.(type) {
	case []int:
		v = v[:cap(v)]
		for i := range v {
			v[i] = n
		}
	case [][]int:
		for _, l := range v {
			fill(l, n)
		}
	}
}

// R4: what is done to a result changes neither an argument nor another result.
func TestResultsAreNew(t *testing.T) {
	for i, x := range samples() {
		a := x.spare()
		_, results := a.all()
		for j := range results {
			_, others := a.all()
			fill(results[j], -5)
			for k := range results {
				if k > j && !reflect.DeepEqual(results[k], others[k]) {
					t.Error(i, j, k, results[k], others[k])
				}
			}
		}
		if !reflect.DeepEqual(a.whole(), x.spare().whole()) {
			t.Error(i, a.whole())
		}
	}
}

// R4: no two lists of what two letters can be share memory.
func TestCanIsNew(t *testing.T) {
	can, _ := letter.Can(example(), list(-1, 0, -1), list(2, 5), span(40, 40))
	fill(can[0], -5)
	if !slices.Equal(can[1], list(0, 1, 2)) {
		t.Error(can)
	}
	fill(can[1], -6)
	if !slices.Equal(can[0], list(-5, -5, -5)) {
		t.Error(can)
	}
}

// R3: nil and empty lists are the same value.
func TestNilAndEmpty(t *testing.T) {
	single := arguments{c: free(5), word: list(0), length: 9, short: 9, blotted: list(0), measured: span(5, 5)}
	for i, x := range []arguments{{}, single, {c: example()}, {c: example(pairs()), blotted: list(-1), measured: span(20, 20)}} {
		errs, results := x.all()
		empty := x
		empty.gaps, empty.words, empty.plates = list(), lists(), list()
		if x.word == nil {
			empty.word = list()
		}
		if x.blotted == nil {
			empty.blotted = list()
		}
		if x.c.Widths == nil {
			empty.c.Widths = list()
		}
		if x.c.Pairs == nil {
			empty.c.Pairs = []api.LetterPair{}
		}
		again, others := empty.all()
		if errs != again || !slices.EqualFunc(results, others, equal) {
			t.Error(i, errs, again, results, others)
		}
	}
	words := lists(list(0), nil)
	if _, _, e := letter.Lines(example(), words, 100); e != api.ErrForm {
		t.Error(e)
	}
	words[1] = list()
	if _, _, e := letter.Lines(example(), words, 100); e != api.ErrForm {
		t.Error(e)
	}
}

// equal reports whether two results are equal, nil lists and empty ones alike.
func equal(a, b any) bool {
	return reflect.DeepEqual(a, b) || isZero(a) && isZero(b)
}

// P1: all functions return for arguments of any kind, and nothing with an error.
func TestAnyArguments(t *testing.T) {
	r := rand.New(rand.NewSource(11))
	great := list(-2, -1, 0, 1, 6, 8, 11, 21, 31, 401, 1<<62, -1<<63, 1<<63-1)
	number := func(low, high int) int {
		if r.Intn(80) > 0 {
			return low + r.Intn(high-low+1)
		}
		return great[r.Intn(len(great))]
	}
	some := func(many, low, high int) (out []int) {
		if r.Intn(40) == 0 {
			many++
		}
		for range many {
			out = append(out, number(low, high))
		}
		return out
	}
	var right [functions]int
	for range 20000 {
		last := r.Intn(api.MaxLetters)
		c := api.LetterCase{Widths: some(last+1, 1, 30), Rim: number(0, 20), Least: number(0, 10), Blank: number(0, 30)}
		for range r.Intn(4) {
			c.Pairs = append(c.Pairs, pair(number(0, last), number(0, last), number(-5, 5)))
		}
		many := 1 + r.Intn(api.MaxLetterWord)
		a := arguments{
			c: c, word: some(many, 0, last), gaps: some(many-1, 0, 20), length: number(1, 400), short: number(1, 200), at: number(0, many-1),
			plates: some(r.Intn(7), 1, 400), most: number(0, 20), blotted: some(many, 0, last), measured: span(number(1, 200), number(200, 400)),
		}
		for range r.Intn(6) {
			a.words = append(a.words, some(1+r.Intn(6), 0, last))
		}
		for range r.Intn(4) {
			a.blotted[r.Intn(len(a.blotted))] = api.LetterBlot
		}
		errs, results := a.all()
		if !zeroWith(errs, results) || errs[ofCheck] != api.OK && errs != same(errs[ofCheck]) {
			t.Error(a, errs, results)
		}
		for of, e := range errs {
			if e == api.OK {
				right[of]++
			}
		}
	}
	if slices.Min(right[:]) < 1000 {
		t.Error("too few calls are right:", right)
	}
}

// P1: words as long as there may be, with the most letters, words and plates, are answered like any other ones.
func TestFullArguments(t *testing.T) {
	for _, width := range list(1, 15, 30) {
		c := changed(free(slices.Repeat(list(width), api.MaxLetters)...), rim(20), least(10), pairs(pair(7, 6, -5), pair(0, 1, 5)))
		word := list(7, 6, 7, 6, 7, 6, 7)
		a := arguments{
			c: c, word: word, gaps: make([]int, 6), length: 400, short: 40 + width, words: slices.Repeat(lists(word), 5), plates: slices.Repeat(list(400), 6),
			blotted: list(-1, 6, 7, 6, 7, 6, -1), measured: span(1, 400),
		}
		if errs, _ := a.all(); errs != only(api.OK) {
			t.Error(width, errs)
		}
		if looks, spread, e := letter.Looks(c, word, make([]int, 6)); !slices.Equal(looks, list(-5, 0, -5, 0, -5, 0)) || spread != 5 || e != api.OK {
			t.Error(width, looks, spread, e)
		}
	}
}
