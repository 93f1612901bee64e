package stencil_test

import (
	"math/rand"
	"slices"
	"testing"

	"smalto/api"
	"smalto/stencil"
)

// someSign returns a sign that was laid from a word, with at most so many places that read as anything.
func someSign(r *rand.Rand, s api.StencilSet, word []int, rare, blots int) []int {
	sign := read(s, somePieces(r, s, word, rare))
	for range some(r, 0, blots) {
		sign[r.Intn(len(sign))] = some(r, unread, s.Letters-1)
	}
	return sign
}

// P7.2: Ways against each stencil that can be laid at a place.
func TestWaysOfAll(t *testing.T) {
	r := rand.New(rand.NewSource(1))
	many := map[string]int{}
	for range 3000 {
		s := someSet(r, api.MaxStencilLetters)
		word := someWord(r, s, api.MaxStencilWord)
		sign := someSign(r, s, word, 2, 3)
		got, e := stencil.Ways(s, word, sign)
		if len(got) != len(word) || e != api.OK {
			t.Fatal(s, word, sign, got, e)
		}
		for place, letter := range word {
			var want []api.StencilKind
			name := ""
			for kind := right; kind <= both; kind++ {
				if slices.ContainsFunc(pieces(s, letter), func(p piece) bool { return p.kind == kind && look(s, p) == sign[place] }) {
					want = append(want, kind)
					name += string(rune('0' + kind))
				}
			}
			many[name]++
			if !slices.Equal(got[place], want) {
				t.Error(s, word, sign, place, got[place], want)
			}
		}
	}
	for _, name := range []string{"", "0", "1", "2", "3", "01", "03", "12", "23"} {
		if many[name] < 50 {
			t.Error("too few places of a kind:", name, many)
		}
	}
}

// P7.3: Fewest against all lists of kinds that read as the sign.
func TestFewestOfAll(t *testing.T) {
	r := rand.New(rand.NewSource(2))
	var many [13]int
	none := 0
	for range 4000 {
		s := someSet(r, 6)
		word := someWord(r, s, 5)
		sign := someSign(r, s, word, some(r, 1, 2), r.Intn(2))
		want, ok := fewest(s, word, sign)
		got, all, e := stencil.Fewest(s, word, sign)
		if !ok {
			none++
			if len(got) != 0 || all != 0 || e != api.ErrNone {
				t.Error(s, word, sign, got, all, e)
			}
			continue
		}
		many[all]++
		if !slices.Equal(got, want) || all != faults(want) || e != api.OK {
			t.Error(s, word, sign, got, all, e, want)
		}
	}
	if none < 300 || slices.Min(many[:7]) < 20 {
		t.Error("too few signs of a kind:", none, many)
	}
}

// P7.4: Meant against all lists of kinds, for each number of faults.
func TestMeantOfAll(t *testing.T) {
	r := rand.New(rand.NewSource(3))
	var many [api.MaxStencilWords + 1]int
	more := 0
	for range 1500 {
		s := someSet(r, 6)
		words := someWords(r, s, some(r, 1, api.MaxStencilWords), 5)
		sign := someSign(r, s, words[r.Intn(len(words))], some(r, 1, 4), r.Intn(2))
		for most := range 7 {
			want := meant(s, words, sign, most)
			e := api.OK
			if len(want) == 0 {
				e = api.ErrNone
			}
			got, is := stencil.Meant(s, words, sign, most)
			if !slices.Equal(got, want) || is != e {
				t.Error(s, words, sign, most, got, is, want)
			}
			many[len(want)]++
			if most > 0 && len(meant(s, words, sign, most-1)) < len(want) {
				more++
			}
		}
	}
	if slices.Min(many[:]) < 100 || more < 1000 {
		t.Error("too few words are meant:", many, more)
	}
}

// asked returns the answer to Ask over all layings, and how many words are meant.
func asked(s api.StencilSet, words [][]int, sign []int, most int) (place, left, all int) {
	all = len(meant(s, words, sign, most))
	left = all
	for p := range sign {
		many := 0
		for letter := range s.Letters {
			many = max(many, len(after(s, words, sign, most, p, letter)))
		}
		if many < left {
			place, left = p, many
		}
	}
	return place, left, all
}

// P7.5, P7.12: Ask against all layings; whatever letter is learned, no more than left words are left.
func TestAskOfAll(t *testing.T) {
	r := rand.New(rand.NewSource(4))
	var many [api.MaxStencilWords + 1]int
	none, twice, later, fewer := 0, 0, 0, 0
	for range 6000 {
		s := someSet(r, 6)
		words := someWords(r, s, some(r, 2, api.MaxStencilWords), 4)
		sign := someSign(r, s, words[0], some(r, 1, 3), r.Intn(6)/5)
		most := some(r, 0, 6)
		place, left, all := asked(s, words, sign, most)
		got, lefts, e := stencil.Ask(s, words, sign, most)
		switch {
		case all == 0:
			none++
			if got != 0 || lefts != 0 || e != api.ErrNone {
				t.Error(s, words, sign, most, got, lefts, e)
			}
			continue
		case left == all:
			twice++
			if got != 0 || lefts != 0 || e != api.ErrTwice {
				t.Error(s, words, sign, most, got, lefts, e)
			}
			continue
		case got != place || lefts != left || e != api.OK:
			t.Error(s, words, sign, most, got, lefts, e, place, left)
		}
		many[left]++
		if place > 0 {
			later++
		}
		if most > 0 {
			if p, l, _ := asked(s, words, sign, most-1); p != place || l != left {
				fewer++
			}
		}
	}
	if none < 100 || twice < 300 || later < 100 || fewer < 100 || many[1] < 200 || many[2] < 100 || many[3] < 50 || many[4] < 20 {
		t.Error("too few questions of a kind:", none, twice, later, fewer, many)
	}
}

// P7.12: the word that was meant is one of those that are left after the letter that truly lies at the place of Ask was learned.
func TestAskKeepsWhatWasMeant(t *testing.T) {
	r := rand.New(rand.NewSource(5))
	found := 0
	for range 8000 {
		s := someSet(r, 6)
		words := someWords(r, s, some(r, 2, api.MaxStencilWords), 5)
		n := r.Intn(len(words))
		l := somePieces(r, s, words[n], some(r, 1, 3))
		sign := read(s, l)
		most := min(faults(kindsOf(l))+some(r, 0, 2), api.MaxStencilFaults)
		place, left, e := stencil.Ask(s, words, sign, most)
		if e != api.OK {
			continue
		}
		found++
		if rest := after(s, words, sign, most, place, l[place].stencil); len(rest) > left || !slices.Contains(rest, n) {
			t.Error(s, words, sign, most, place, left, rest, n)
		}
	}
	if found < 1000 {
		t.Error("too few questions:", found)
	}
}

// P7.11: what was laid is among Ways and Meant, and Fewest has no more faults.
func TestWhatWasLaid(t *testing.T) {
	r := rand.New(rand.NewSource(6))
	fewer, most := 0, 0
	for range 5000 {
		s := someSet(r, api.MaxStencilLetters)
		words := someWords(r, s, some(r, 1, api.MaxStencilWords), api.MaxStencilWord)
		n := r.Intn(len(words))
		l := somePieces(r, s, words[n], some(r, 1, 3))
		sign, all := read(s, l), faults(kindsOf(l))
		got, e := stencil.Ways(s, words[n], sign)
		if len(got) != len(l) || e != api.OK {
			t.Fatal(s, words[n], sign, got, e)
		}
		for place, p := range l {
			if !slices.Contains(got[place], p.kind) {
				t.Error(s, words[n], sign, place, got, p)
			}
		}
		few, faults, e := stencil.Fewest(s, words[n], sign)
		if len(few) != len(l) || faults > all || e != api.OK {
			t.Error(s, words[n], sign, few, faults, e, all)
		}
		for more := all; more <= api.MaxStencilFaults; more++ {
			if got, e := stencil.Meant(s, words, sign, more); !slices.Contains(got, n) || e != api.OK {
				t.Error(s, words, sign, more, got, e, n)
			}
		}
		if faults < all {
			fewer++
		}
		most = max(most, faults)
	}
	if fewer < 300 || most < 9 {
		t.Error("too few signs of a kind:", fewer, most)
	}
}

// P7.6, P7.7, P7.13: Lay and Lack against all lists of stencils, and all sets of places.
func TestLayOfAll(t *testing.T) {
	r := rand.New(rand.NewSource(7))
	var many [api.MaxStencilWord + 1]int
	turns, later := 0, 0
	for i := range 4000 {
		s := someSet(r, []int{2, 4, 8}[i%3])
		count, word := someList(r, s.Letters, 0, some(r, 0, 3)), someWord(r, s, api.MaxStencilWord)
		got, e := stencil.Lay(s, count, word)
		lacks, is := stencil.Lack(s, count, word)
		want, ok := laid(s, count, word)
		if ok {
			many[0]++
			if !slices.Equal(got, want) || e != api.OK || len(lacks) != 0 || is != api.ErrTwice {
				t.Error(s, count, word, got, e, want, lacks, is)
			}
			if !slices.Equal(got, word) {
				turns++
			}
			continue
		}
		places := lacking(s, count, word)
		if len(got) != 0 || e != api.ErrNone || !slices.Equal(lacks, places) || is != api.OK {
			t.Error(s, count, word, got, e, lacks, is, places)
		}
		many[len(places)]++
		if places[0] > 0 {
			later++
		}
	}
	if slices.Min(many[:]) < 30 || turns < 100 || later < 100 {
		t.Error("too few words of a kind:", many, turns, later)
	}
}

// P7.13: the stencils of Lay are in the case and read as the word; without the places of Lack it can be laid, without any one fewer it cannot.
func TestLaidIsInTheCase(t *testing.T) {
	r := rand.New(rand.NewSource(8))
	for range 4000 {
		s := someSet(r, api.MaxStencilLetters)
		count, word := someList(r, s.Letters, 0, some(r, 0, api.MaxStencilCount)), someWord(r, s, api.MaxStencilWord)
		if l, e := stencil.Lay(s, count, word); e == api.OK {
			for place, letter := range l {
				if letter != word[place] && head(s, letter) != word[place] {
					t.Error(s, count, word, l, place)
				}
			}
			if len(l) != len(word) || !isOfCase(count, l) {
				t.Error(s, count, word, l)
			}
			continue
		}
		places, e := stencil.Lack(s, count, word)
		if e != api.OK {
			t.Fatal(s, count, word, places, e)
		}
		for i := range len(places) + 1 {
			without := but(places, list(i))
			rest := but(word, without)
			if len(rest) == 0 {
				continue
			}
			want := api.ErrNone
			if i == len(places) {
				want = api.OK
			}
			if l, e := stencil.Lay(s, count, rest); e != want {
				t.Error(s, count, word, places, i, l, e)
			}
		}
	}
}

// P7.8, P7.13: Cut against all lists of stencils; with any one less some word cannot be laid.
func TestCutOfAll(t *testing.T) {
	r := rand.New(rand.NewSource(9))
	var many [9]int
	several := 0
	for i := range 2000 {
		s := someSet(r, []int{2, 3, 5}[i%3])
		count := someList(r, s.Letters, 0, some(r, 0, 2))
		var words [][]int
		for range some(r, 0, api.MaxStencilWords) {
			words = append(words, someWord(r, s, []int{2, 4, 6}[r.Intn(3)]))
		}
		want := cutFor(s, count, words)
		got, e := stencil.Cut(s, count, words)
		if !slices.Equal(got, want) || e != api.OK {
			t.Error(s, count, words, got, e, want)
		}
		all, each := 0, 0
		for letter, n := range got {
			all += n
			if n > 0 {
				each++
				fewer := added(count, got)
				fewer[letter]--
				if areLaid(s, fewer, words) {
					t.Error(s, count, words, got, letter)
				}
			}
		}
		many[min(all, 8)]++
		if each > 1 {
			several++
		}
	}
	if slices.Min(many[:]) < 10 || several < 300 {
		t.Error("too few words of a kind:", many, several)
	}
}

// someHeap returns cases, and a heap of some of them, of which at most so many stencils were lost.
func someHeap(r *rand.Rand, s api.StencilSet, most int) (cases [][]int, set, heap []int, lost int) {
	for range some(r, 1, api.MaxStencilCases) {
		cases = append(cases, someList(r, s.Letters, 0, some(r, 0, most)))
	}
	heap = make([]int, s.Letters)
	set = r.Perm(len(cases))[:some(r, 1, len(cases))]
	slices.Sort(set)
	for _, n := range set {
		heap = added(heap, cases[n])
	}
	for range some(r, 0, 6) {
		if n := r.Intn(s.Letters); heap[n] > 0 {
			heap[n]--
			lost++
		}
	}
	return cases, set, heap, lost
}

// P7.9, P7.10, P7.14: Whose and Mixed against all sets of cases; a heap that truly is of some cases has them among these.
func TestWhoseOfAll(t *testing.T) {
	r := rand.New(rand.NewSource(10))
	many := map[int]int{}
	none, sure, gone := 0, 0, 0
	for i := range 5000 {
		s := someSet(r, api.MaxStencilLetters)
		cases, set, heap, lost := someHeap(r, s, []int{1, 2, 5}[i%3])
		most := min(api.MaxStencilLost, lost+some(r, -2, 6))
		if most < 0 {
			continue
		}
		want := ownersOf(cases, heap, most)
		got, e := stencil.Whose(s, cases, heap, most)
		surely, possibly, is := stencil.Mixed(s, cases, heap, most)
		if len(want) == 0 {
			none++
			if len(got) != 0 || len(surely) != 0 || len(possibly) != 0 || e != api.ErrNone || is != e {
				t.Error(s, cases, heap, most, got, e, surely, possibly, is)
			}
			continue
		}
		many[min(len(want), 4)]++
		if !slices.EqualFunc(got, want, slices.Equal) || e != api.OK || is != api.OK {
			t.Error(s, cases, heap, most, got, e, is, want)
		}
		for n := range cases {
			in := 0
			for _, l := range want {
				if slices.Contains(l, n) {
					in++
				}
			}
			if slices.Contains(surely, n) != (in == len(want)) || slices.Contains(possibly, n) != (in > 0) {
				t.Error(s, cases, heap, most, n, surely, possibly, want)
			}
		}
		if !slices.IsSorted(surely) || !slices.IsSorted(possibly) || len(surely) > len(possibly) || len(possibly) > len(cases) {
			t.Error(s, cases, heap, most, surely, possibly)
		}
		if lost > most {
			gone++
			continue
		}
		if !slices.ContainsFunc(got, func(l []int) bool { return slices.Equal(l, set) }) {
			t.Error(s, cases, heap, most, got, set)
		}
		for n := range cases {
			is := slices.Contains(set, n)
			if is && !slices.Contains(possibly, n) || !is && slices.Contains(surely, n) {
				t.Error(s, cases, heap, most, n, surely, possibly, set)
			}
		}
		if len(surely) > 0 && len(surely) < len(possibly) {
			sure++
		}
	}
	if none < 100 || sure < 300 || gone < 50 || many[1] < 500 || many[2] < 300 || many[3] < 100 || many[4] < 300 {
		t.Error("too few heaps of a kind:", none, sure, gone, many)
	}
}
