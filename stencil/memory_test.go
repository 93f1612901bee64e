package stencil_test

import (
	"math/rand"
	"reflect"
	"slices"
	"testing"

	"smalto/api"
	"smalto/stencil"
)

// spared returns a list with the same elements, and spare room that has others.
func spared[T any](l []T, spare T) []T {
	out := append(make([]T, 0, len(l)+3), l...)
	for range 3 {
		out = append(out, spare)
	}
	return out[:len(l)]
}

// sparedLists returns lists with spare room, each with spare room of its own.
func sparedLists(l [][]int) [][]int {
	out := spared(l, list(2, 3))
	for i := range l {
		out[i] = spared(l[i], 1)
	}
	return out
}

// spare returns arguments with spare room behind all lists.
func (a arguments) spare() arguments {
	a.s.Heads, a.s.Alike = spared(a.s.Heads, pair(4, 4)), spared(a.s.Alike, pair(0, 1))
	a.word, a.sign, a.read, a.count, a.heap = spared(a.word, 1), spared(a.sign, 1), spared(a.read, 1), spared(a.count, 5), spared(a.heap, 7)
	a.laid, a.lacking = spared(a.laid, 0), spared(a.lacking, 4)
	a.words, a.cut, a.cases = sparedLists(a.words), sparedLists(a.cut), sparedLists(a.cases)
	return a
}

// wholeLists returns lists with their spare room.
func wholeLists(l [][]int) [][]int {
	l = slices.Clone(l[:cap(l)])
	for i := range l {
		l[i] = l[i][:cap(l[i])]
	}
	return l
}

// whole returns arguments with the spare room of their lists.
func (a arguments) whole() []any {
	return []any{
		a.s.Letters, a.s.Heads[:cap(a.s.Heads)], a.s.Alike[:cap(a.s.Alike)], a.word[:cap(a.word)], a.sign[:cap(a.sign)], wholeLists(a.words), a.read[:cap(a.read)], a.most,
		a.count[:cap(a.count)], a.laid[:cap(a.laid)], a.lacking[:cap(a.lacking)], wholeLists(a.cut), wholeLists(a.cases), a.heap[:cap(a.heap)], a.lost,
	}
}

// samples returns arguments of several kinds.
func samples() []arguments {
	out := slices.Repeat([]arguments{fine()}, 5)
	out[1].word, out[1].sign, out[1].words, out[1].read, out[1].most = list(0, 2), list(2, 1), lists(list(0, 2), list(2, 0), list(2, 2)), list(2, 1), 12
	out[2].count, out[2].laid, out[2].lacking, out[2].cut = list(1, 3, 0, 0, 2), list(0, 1, 1, 0, 4), list(2, 2, 3, 4, 4, 4), lists(list(2, 2), list(3), list(4, 4, 4))
	out[3].cases, out[3].heap, out[3].lost, out[3].cut = lists(list(0, 0, 0, 0, 0), list(1, 0, 0, 0, 0), list(0, 0, 0, 0, 0)), list(1, 0, 0, 0, 0), 0, nil
	out[4].s, out[4].word, out[4].sign, out[4].words, out[4].most = letters(5, nil, nil), list(1, 2), list(1, unread), nil, 0
	return out
}

// P2, R4: equal results for equal arguments, none of which is changed, nor what lies behind the end of a list.
func TestArgumentsStay(t *testing.T) {
	for i, x := range samples() {
		a := x.spare()
		errs, first := a.all()
		if !reflect.DeepEqual(a.whole(), x.spare().whole()) {
			t.Error(i, a.whole())
		}
		for range 20 {
			if again, results := x.spare().all(); again != errs || !reflect.DeepEqual(results, first) {
				t.Error(i, again, results, first)
			}
		}
	}
}

// over writes over a list and its spare room.
func over[T any](l []T, x T) {
	l = l[:cap(l)]
	for i := range l {
		l[i] = x
	}
}

// fill writes over all lists of a result.
func fill(x any) {
	switch v := x.(type) {
	case []int:
		over(v, -5)
	case [][]int:
		for _, l := range v {
			over(l, -5)
		}
	case []api.StencilKind:
		over(v, -5)
	case [][]api.StencilKind:
		for _, l := range v {
			over(l, -5)
		}
	}
}

// R4: what is done to a result changes neither an argument nor another result.
func TestResultsAreNew(t *testing.T) {
	for i, x := range samples() {
		a := x.spare()
		_, results := a.all()
		for j := range results {
			_, others := a.all()
			fill(results[j])
			for k := range results {
				if k > j && !reflect.DeepEqual(results[k], others[k]) {
					t.Error(i, j, k, results[k], others[k])
				}
			}
		}
		if !reflect.DeepEqual(a.whole(), x.spare().whole()) {
			t.Error(i, a.whole())
		}
	}
}

// R4: the lists of one result do not lie in each other's room.
func TestListsAreApart(t *testing.T) {
	out, e := stencil.Ways(example(), list(3, 3, 0), list(3, 3, 2))
	over(out[0], -5)
	if !slices.Equal(out[1], kinds(right, turned)) || !slices.Equal(out[2], kinds(taken, both)) || e != api.OK {
		t.Error(out, e)
	}
	one := letters(1, nil, nil)
	whose, e := stencil.Whose(one, slices.Repeat(lists(list(0)), 4), list(0), 0)
	for i := range whose {
		if !slices.Equal(whose[i], all4()[i]) || e != api.OK {
			t.Error(i, whose, e)
		}
		over(whose[i], -5)
	}
	surely, possibly, e := stencil.Mixed(one, lists(list(1), list(1)), list(2), 0)
	over(surely, -5)
	if !slices.Equal(possibly, list(0, 1)) || e != api.OK {
		t.Error(surely, possibly, e)
	}
}

// R3: nil and empty lists are the same value.
func TestNilAndEmpty(t *testing.T) {
	for i, x := range []arguments{{}, {s: letters(1, nil, nil)}, {s: example()}, {s: letters(1, nil, nil), count: list(0), heap: list(0), read: list(0)}} {
		errs, results := x.all()
		empty := x
		for _, l := range []*[]int{&empty.word, &empty.sign, &empty.read, &empty.count, &empty.laid, &empty.lacking, &empty.heap} {
			if *l == nil {
				*l = list()
			}
		}
		for _, l := range []*[]api.StencilPair{&empty.s.Heads, &empty.s.Alike} {
			if *l == nil {
				*l = pairs()
			}
		}
		empty.words, empty.cut, empty.cases = lists(), lists(), lists()
		again, others := empty.all()
		if errs != again || !slices.EqualFunc(results, others, equal) {
			t.Error(i, errs, again, results, others)
		}
	}
}

// equal reports whether two results are equal, nil lists and empty ones alike.
func equal(a, b any) bool {
	return reflect.DeepEqual(a, b) || isZero(a) && isZero(b)
}

// P1: all functions return for arguments of any kind, and nothing with an error.
func TestAnyArguments(t *testing.T) {
	r := rand.New(rand.NewSource(11))
	great := list(-2, -1, 0, 1, 5, 6, 8, 9, 13, 21, 1<<62, -1<<63, 1<<63-1)
	number := func(low, high int) int {
		if r.Intn(150) > 0 {
			return some(r, low, high)
		}
		return great[r.Intn(len(great))]
	}
	numbers := func(many, low, high int) []int {
		var out []int
		for range max(0, min(many+r.Intn(60)/59, 9)) {
			out = append(out, number(low, high))
		}
		return out
	}
	var right [functions]int
	for range 6000 {
		s := someSet(r, api.MaxStencilLetters)
		last := s.Letters - 1
		s.Letters = number(s.Letters, s.Letters)
		for range r.Intn(20) / 19 {
			s.Heads, s.Alike = append(s.Heads, pair(number(0, last), number(0, last))), append(s.Alike, pair(number(0, last), number(0, last)))
		}
		long := some(r, 1, 6)
		a := arguments{
			s: s, word: numbers(long, 0, last), sign: numbers(long, -1, last), read: numbers(long, -1, last), most: number(0, 12), count: numbers(last+1, 0, 5),
			laid: numbers(some(r, 1, 4), 0, last), lacking: numbers(long, 0, last), heap: numbers(last+1, 0, 5), lost: number(0, 20),
		}
		for range number(1, 5) % 7 {
			a.words, a.cut = append(a.words, numbers(long, 0, last)), append(a.cut, numbers(some(r, 1, 6), 0, last))
		}
		for range number(1, 4) % 7 {
			a.cases = append(a.cases, numbers(last+1, 0, 5))
		}
		errs, results := a.all()
		if !zeroWith(errs, results) {
			t.Error(a, errs, results)
		}
		for of, e := range errs {
			if e == api.OK {
				right[of]++
			} else if errs[ofCheck] != api.OK && e != errs[ofCheck] {
				t.Error(a, of, errs)
			}
		}
	}
	if slices.Min(right[:]) < 150 {
		t.Error("too few calls are right:", right)
	}
}

// P1: the greatest alphabet, with as many words, pairs and cases as there may be, is answered like any other one.
func TestFullArguments(t *testing.T) {
	s := letters(8, pairs(pair(0, 1), pair(2, 3), pair(4, 5), pair(6, 6), pair(7, 7)), pairs(pair(0, 2), pair(0, 3), pair(0, 4), pair(0, 5), pair(0, 6), pair(0, 7), pair(1, 2), pair(1, 3)))
	word, full := list(0, 0, 0, 0, 0, 0), slices.Repeat(list(5), 8)
	a := arguments{
		s: s, word: word, sign: list(2, 3, 4, 5, 6, 7), words: slices.Repeat(lists(word), 5), read: list(2, 3, 4, 5, 6, 7), most: 12,
		count: full, laid: word, lacking: word, cut: slices.Repeat(lists(word), 5), cases: slices.Repeat(lists(full), 4), heap: slices.Repeat(list(20), 8), lost: 20,
	}
	errs, results := a.all()
	want := only(api.ErrTwice, ofAsk, ofLack)
	if errs != want || !zeroWith(errs, results) {
		t.Error(errs, results)
	}
	for i, want := range []any{
		slices.Repeat(ways(kinds(taken, both)), 6), slices.Repeat(kinds(taken), 6), 6, list(0, 1, 2, 3, 4), 0, 0, list(0, 0, 0, 0, 0, 1), []int(nil), make([]int, 8), lists(list(0, 1, 2, 3)), list(0, 1, 2, 3), list(0, 1, 2, 3),
	} {
		if !reflect.DeepEqual(results[i], want) {
			t.Error(i, results[i], want)
		}
	}
}
