package stencil_test

import (
	"math/rand"
	"slices"

	"smalto/api"
	"smalto/stencil"
)

// list, lists, pair, pairs, letters, kinds and ways keep the tables of tests short.
func list(l ...int) []int { return l }

func lists(l ...[]int) [][]int { return l }

func pair(a, b int) api.StencilPair { return api.StencilPair{A: a, B: b} }

func pairs(l ...api.StencilPair) []api.StencilPair { return l }

func letters(many int, heads, alike []api.StencilPair) api.StencilSet {
	return api.StencilSet{Letters: many, Heads: heads, Alike: alike}
}

func kinds(l ...api.StencilKind) []api.StencilKind { return l }

func ways(l ...[]api.StencilKind) [][]api.StencilKind { return l }

const (
	right  = api.StencilRight
	turned = api.StencilTurned
	taken  = api.StencilTaken
	both   = api.StencilBoth
	unread = api.StencilUnread
)

// example is the alphabet of the chapter's examples.
func example() api.StencilSet {
	return letters(5, pairs(pair(0, 1), pair(2, 2), pair(3, 3)), pairs(pair(0, 2), pair(3, 4)))
}

// owners are the cases of example 5.
func owners() [][]int {
	return lists(list(1, 0, 1, 1, 1), list(0, 1, 1, 0, 2), list(2, 0, 0, 1, 0))
}

// head returns what a letter reads as on its head.
func head(s api.StencilSet, letter int) int {
	for _, p := range s.Heads {
		if p.A == letter {
			return p.B
		}
		if p.B == letter {
			return p.A
		}
	}
	return unread
}

// areAlike reports whether a letter can be taken for another one.
func areAlike(s api.StencilSet, a, b int) bool {
	return slices.Contains(s.Alike, pair(a, b)) || slices.Contains(s.Alike, pair(b, a))
}

// piece is a stencil that is laid for a letter of a word, by a kind.
type piece struct {
	kind    api.StencilKind
	stencil int
}

// pieces returns each stencil that can be laid for a letter, by each kind.
func pieces(s api.StencilSet, letter int) []piece {
	out := []piece{{right, letter}, {turned, letter}}
	for other := range s.Letters {
		if areAlike(s, letter, other) {
			out = append(out, piece{taken, other}, piece{both, other})
		}
	}
	return out
}

// look returns what a stencil that is laid reads as.
func look(s api.StencilSet, p piece) int {
	if p.kind == right || p.kind == taken {
		return p.stencil
	}
	return head(s, p.stencil)
}

// faults returns how many faults kinds are.
func faults(l []api.StencilKind) int {
	all := 0
	for _, kind := range l {
		all += []int{0, 1, 1, 2}[kind]
	}
	return all
}

// kindsOf returns the kinds of pieces.
func kindsOf(l []piece) []api.StencilKind {
	var out []api.StencilKind
	for _, p := range l {
		out = append(out, p.kind)
	}
	return out
}

// layings yields each list of stencils that were laid for a word and read as a sign; it is written over by the next one.
func layings(s api.StencilSet, word, sign []int, yield func(l []piece)) {
	l := make([]piece, len(word))
	var from func(place int)
	from = func(place int) {
		if place == len(word) {
			yield(l)
			return
		}
		for _, p := range pieces(s, word[place]) {
			if look(s, p) == sign[place] {
				l[place] = p
				from(place + 1)
			}
		}
	}
	from(0)
}

// fewest returns the kinds with the fewest faults, of several such lists the smallest one, and whether there are any, by trying all lists.
func fewest(s api.StencilSet, word, sign []int) (best []api.StencilKind, ok bool) {
	layings(s, word, sign, func(l []piece) {
		now := kindsOf(l)
		if !ok || faults(now) < faults(best) || faults(now) == faults(best) && slices.Compare(now, best) < 0 {
			best, ok = now, true
		}
	})
	return best, ok
}

// meant returns the words that have some laying with at most so many faults.
func meant(s api.StencilSet, words [][]int, sign []int, most int) []int {
	var out []int
	for n, word := range words {
		if len(word) != len(sign) {
			continue
		}
		can := false
		layings(s, word, sign, func(l []piece) { can = can || faults(kindsOf(l)) <= most })
		if can {
			out = append(out, n)
		}
	}
	return out
}

// after returns the words that are left after it is learned the stencil of which letter lies at a place, over all layings with at most so many faults.
func after(s api.StencilSet, words [][]int, sign []int, most, place, letter int) []int {
	var out []int
	for _, n := range meant(s, words, sign, most) {
		can := false
		layings(s, words[n], sign, func(l []piece) {
			can = can || l[place].stencil == letter && faults(kindsOf(l)) <= most
		})
		if can {
			out = append(out, n)
		}
	}
	return out
}

// layable yields each list of stencils of a case that read as some letters, upright or on their heads, from the smallest one on; it is written over by the next one.
func layable(s api.StencilSet, count, word []int, yield func(l []int)) {
	l := make([]int, len(word))
	var from func(place int)
	from = func(place int) {
		if place == len(word) {
			if isOfCase(count, l) {
				yield(l)
			}
			return
		}
		for stencil := range s.Letters {
			if stencil == word[place] || head(s, stencil) == word[place] {
				l[place] = stencil
				from(place + 1)
			}
		}
	}
	from(0)
}

// isOfCase reports whether there are as many stencils of each letter as a list has.
func isOfCase(count, l []int) bool {
	for letter, most := range count {
		many := 0
		for _, stencil := range l {
			if stencil == letter {
				many++
			}
		}
		if many > most {
			return false
		}
	}
	return true
}

// laid returns the smallest list of stencils for a word, and whether there is one.
func laid(s api.StencilSet, count, word []int) (first []int, ok bool) {
	layable(s, count, word, func(l []int) {
		if !ok {
			first, ok = slices.Clone(l), true
		}
	})
	return first, ok
}

// but returns a list without some of its places.
func but(l, places []int) []int {
	var out []int
	for i, x := range l {
		if !slices.Contains(places, i) {
			out = append(out, x)
		}
	}
	return out
}

// lacking returns the fewest places without which a word can be laid, the smallest list, by trying all sets of places.
func lacking(s api.StencilSet, count, word []int) (best []int) {
	found := false
	sets(len(word), func(set []int) {
		if found && (len(set) > len(best) || len(set) == len(best) && slices.Compare(set, best) > 0) {
			return
		}
		if _, ok := laid(s, count, but(word, set)); ok {
			best, found = set, true
		}
	})
	return best
}

// areLaid reports whether each of some words can be laid.
func areLaid(s api.StencilSet, count []int, words [][]int) bool {
	for _, word := range words {
		if _, ok := laid(s, count, word); !ok {
			return false
		}
	}
	return true
}

// added returns counts with others besides.
func added(a, b []int) []int {
	out := slices.Clone(a)
	for i, n := range b {
		out[i] += n
	}
	return out
}

// shares yields each list of so many numbers that are so many in all, from the smallest one on, until it is told to stop; it is written over by the next one.
func shares(many, all int, yield func(l []int) bool) {
	l := make([]int, many)
	var from func(i, rest int) bool
	from = func(i, rest int) bool {
		if i == many-1 {
			l[i] = rest
			return yield(l)
		}
		for n := range rest + 1 {
			l[i] = n
			if !from(i+1, rest-n) {
				return false
			}
		}
		return true
	}
	from(0, all)
}

// cutFor returns the fewest stencils by which each of some words can be laid, the smallest list, by trying all lists.
func cutFor(s api.StencilSet, count []int, words [][]int) (best []int) {
	for all := 0; best == nil; all++ {
		shares(s.Letters, all, func(l []int) bool {
			if areLaid(s, added(count, l), words) {
				best = slices.Clone(l)
			}
			return best == nil
		})
	}
	return best
}

// canBe reports whether a heap can be of just these cases.
func canBe(cases [][]int, heap []int, lost int, set []int) bool {
	all := make([]int, len(heap))
	for _, n := range set {
		all = added(all, cases[n])
	}
	for letter, many := range heap {
		if many > all[letter] {
			return false
		}
		lost -= all[letter] - many
	}
	return len(set) > 0 && lost >= 0
}

// ownersOf returns all lists of cases of which a heap can be, sorted.
func ownersOf(cases [][]int, heap []int, lost int) [][]int {
	var out [][]int
	sets(len(cases), func(set []int) {
		if canBe(cases, heap, lost, set) {
			out = append(out, set)
		}
	})
	slices.SortFunc(out, slices.Compare)
	return out
}

// sets yields each set of so many numbers, ascending.
func sets(many int, yield func(set []int)) {
	for bits := range 1 << many {
		var set []int
		for n := range many {
			if bits>>n&1 == 1 {
				set = append(set, n)
			}
		}
		yield(set)
	}
}

// some returns a number from low to high.
func some(r *rand.Rand, low, high int) int { return low + r.Intn(high-low+1) }

// someList returns so many numbers from low to high.
func someList(r *rand.Rand, many, low, high int) []int {
	var out []int
	for range many {
		out = append(out, some(r, low, high))
	}
	return out
}

// someSet returns an alphabet of at most so many letters; pairs of letters that are alike can stand twice.
func someSet(r *rand.Rand, most int) api.StencilSet {
	s := api.StencilSet{Letters: max(some(r, 1, most), some(r, 1, most))}
	rest := r.Perm(s.Letters)
	for len(rest) > 0 {
		many := min(some(r, 1, 2), len(rest))
		if r.Intn(4) > 0 {
			s.Heads = append(s.Heads, pair(rest[0], rest[many-1]))
		}
		rest = rest[many:]
	}
	for range some(r, 0, min(s.Letters, api.MaxStencilPairs)) {
		if a, b := r.Intn(s.Letters), r.Intn(s.Letters); a != b {
			s.Alike = append(s.Alike, pair(a, b))
		}
	}
	return s
}

// someWord returns a word of an alphabet, of at most so many letters.
func someWord(r *rand.Rand, s api.StencilSet, most int) []int {
	return someList(r, some(r, 1, most), 0, s.Letters-1)
}

// someWords returns so many words, most of which are the first one with some letters as which its own ones can read.
func someWords(r *rand.Rand, s api.StencilSet, many, most int) [][]int {
	out := lists(someWord(r, s, most))
	for len(out) < many {
		next := someWord(r, s, most)
		if r.Intn(8) > 0 {
			next = slices.Clone(out[0])
			for range some(r, 0, 4) {
				place := r.Intn(len(next))
				all := pieces(s, next[place])
				next[place] = max(0, look(s, all[r.Intn(len(all))]))
			}
		}
		out = append(out, next)
	}
	return out
}

// somePieces returns stencils that are laid for a word, of which about one in so many is laid as it must not be.
func somePieces(r *rand.Rand, s api.StencilSet, word []int, rare int) []piece {
	var out []piece
	for _, letter := range word {
		p := piece{right, letter}
		if r.Intn(rare) == 0 {
			all := pieces(s, letter)
			p = all[r.Intn(len(all))]
		}
		out = append(out, p)
	}
	return out
}

// read returns the sign as which stencils read.
func read(s api.StencilSet, l []piece) []int {
	var out []int
	for _, p := range l {
		out = append(out, look(s, p))
	}
	return out
}

// arguments are all that the functions are given: a word and a sign for Ways and Fewest, words that can be meant, a word that can be laid, one that lacks stencils, and words to cut stencils for.
type arguments struct {
	s             api.StencilSet
	word, sign    []int
	words         [][]int
	read          []int
	most          int
	count         []int
	laid, lacking []int
	cut           [][]int
	cases         [][]int
	heap          []int
	lost          int
}

// The places of the errors that are returned by all functions.
const (
	ofCheck = iota
	ofWays
	ofFewest
	ofMeant
	ofAsk
	ofLay
	ofLack
	ofCut
	ofWhose
	ofMixed
	functions
)

// all calls every function, and returns each one's error, and all their results.
func (a arguments) all() (errs [functions]api.Errno, results []any) {
	var e [functions]api.Errno
	e[ofCheck] = stencil.Check(a.s)
	kinds, e1 := stencil.Ways(a.s, a.word, a.sign)
	few, faults, e2 := stencil.Fewest(a.s, a.word, a.sign)
	meant, e3 := stencil.Meant(a.s, a.words, a.read, a.most)
	place, left, e4 := stencil.Ask(a.s, a.words, a.read, a.most)
	lay, e5 := stencil.Lay(a.s, a.count, a.laid)
	lack, e6 := stencil.Lack(a.s, a.count, a.lacking)
	cut, e7 := stencil.Cut(a.s, a.count, a.cut)
	whose, e8 := stencil.Whose(a.s, a.cases, a.heap, a.lost)
	surely, possibly, e9 := stencil.Mixed(a.s, a.cases, a.heap, a.lost)
	copy(e[ofWays:], []api.Errno{e1, e2, e3, e4, e5, e6, e7, e8, e9})
	return e, []any{kinds, few, faults, meant, place, left, lay, lack, cut, whose, surely, possibly}
}

// zeroWith reports whether each function that returns an error returns nothing else.
func zeroWith(errs [functions]api.Errno, results []any) bool {
	of := list(ofWays, ofFewest, ofFewest, ofMeant, ofAsk, ofAsk, ofLay, ofLack, ofCut, ofWhose, ofMixed, ofMixed)
	for i, x := range results {
		if errs[of[i]] != api.OK && !isZero(x) {
			return false
		}
	}
	return true
}

func isZero(x any) bool {
	switch v := x.(type) {
	case int:
		return v == 0
	case []int:
		return len(v) == 0
	case [][]int:
		return len(v) == 0
	case []api.StencilKind:
		return len(v) == 0
	case [][]api.StencilKind:
		return len(v) == 0
	}
	return false
}

// fine returns arguments with which no function returns an error, and each returns something other than zero.
func fine() arguments {
	return arguments{
		s: example(), word: list(0, 3, 4), sign: list(1, 3, 4),
		words: lists(list(4, 3, 0), list(4, 3, 1), list(4, 3, 2)), read: list(4, 3, 1), most: 2,
		count: list(1, 0, 1, 1, 1), laid: list(1, 3, 4), lacking: list(0, 1), cut: lists(list(0, 1), list(1, 3, 4)),
		cases: owners(), heap: list(1, 1, 1, 1, 2), lost: 2,
	}
}
