package letter_test

import (
	"math/rand"
	"slices"

	"smalto/api"
	"smalto/letter"
)

// span, list, lists, pair and free keep the tables of tests short.
func span(low, high int) api.Span { return api.Span{Low: low, High: high} }

func list(l ...int) []int { return l }

func lists(l ...[]int) [][]int { return l }

func pair(a, b, more int) api.LetterPair { return api.LetterPair{A: a, B: b, More: more} }

// free returns a case without rims and blanks, whose gaps may be closed, and may look as they are.
func free(widths ...int) api.LetterCase { return api.LetterCase{Widths: widths} }

// change is what is otherwise in a case.
type change func(c *api.LetterCase)

// changed returns a case after some changes.
func changed(c api.LetterCase, changes ...change) api.LetterCase {
	for _, to := range changes {
		to(&c)
	}
	return c
}

// example returns the case of the chapter's examples, after some changes.
func example(changes ...change) api.LetterCase {
	return changed(api.LetterCase{
		Widths: list(10, 10, 3, 8),
		Pairs:  []api.LetterPair{pair(0, 1, 3), pair(1, 0, 3), pair(3, 1, 4)},
		Rim:    5, Least: 2, Blank: 6,
	}, changes...)
}

// rim, least, blank, widths and pairs change one thing of a case.
func rim(n int) change { return func(c *api.LetterCase) { c.Rim = n } }

func least(n int) change { return func(c *api.LetterCase) { c.Least = n } }

func blank(n int) change { return func(c *api.LetterCase) { c.Blank = n } }

func widths(l ...int) change { return func(c *api.LetterCase) { c.Widths = l } }

func pairs(l ...api.LetterPair) change { return func(c *api.LetterCase) { c.Pairs = l } }

// laid is a word as the chapter's section "Types" describes it: the widths of its letters, and by how much each of its gaps looks wider.
type laid struct {
	widths, more []int
	rim, least   int
}

// lay looks each letter and each pair of a word up.
func lay(c api.LetterCase, word []int) laid {
	w := laid{rim: c.Rim, least: c.Least}
	for i, l := range word {
		w.widths = append(w.widths, c.Widths[l])
		if i == 0 {
			continue
		}
		more := 0
		for _, p := range c.Pairs {
			if p.A == word[i-1] && p.B == l {
				more = p.More
			}
		}
		w.more = append(w.more, more)
	}
	return w
}

// closest returns the closest gaps, by trying one integer after another.
func (w laid) closest() (out []int) {
	for _, more := range w.more {
		gap := 0
		for gap+more < w.least {
			gap++
		}
		out = append(out, gap)
	}
	return out
}

// needs returns what the word needs.
func (w laid) needs() int {
	return total(w.widths) + total(w.closest()) + w.rim + w.rim
}

// looks returns how wide gaps look.
func (w laid) looks(gaps []int) (out []int) {
	for i, gap := range gaps {
		out = append(out, gap+w.more[i])
	}
	return out
}

// fills reports whether gaps fill a plate, and none is too close.
func (w laid) fills(gaps []int, length int) bool {
	for i, gap := range w.closest() {
		if gaps[i] < gap {
			return false
		}
	}
	return total(w.widths)+total(gaps)+w.rim+w.rim == length
}

// needs returns what a word needs.
func needs(c api.LetterCase, word []int) int { return lay(c, word).needs() }

// total adds numbers up.
func total(l []int) (out int) {
	for _, n := range l {
		out += n
	}
	return out
}

// spread returns the greatest difference of two numbers.
func spread(l []int) (out int) {
	for _, a := range l {
		for _, b := range l {
			out = max(out, a-b)
		}
	}
	return out
}

// parts yields, by bits, all lists of numbers below n, each with all numbers that are not in it.
func parts(n int, yield func(in, out []int)) {
	for bits := range 1 << n {
		var in, out []int
		for i := range n {
			if bits>>i&1 == 1 {
				in = append(in, i)
			} else {
				out = append(out, i)
			}
		}
		yield(in, out)
	}
}

// at returns the elements of a list with some numbers.
func at(l, numbers []int) (out []int) {
	for _, i := range numbers {
		out = append(out, l[i])
	}
	return out
}

// fewer reports whether a list is shorter than another one, or as long and smaller.
func fewer(a, b []int) bool {
	return len(a) < len(b) || len(a) == len(b) && slices.Compare(a, b) < 0
}

// all yields each list of so many numbers below n, from the smallest one on; it is written over by the next one.
func all(many, n int, yield func(l []int)) {
	l := make([]int, many)
	var from func(i int)
	from = func(i int) {
		if i == many {
			yield(l)
			return
		}
		for l[i] = 0; l[i] < n; l[i]++ {
			from(i + 1)
		}
	}
	from(0)
}

// shared yields each list of so many numbers, 0 or more, which are a sum together, from the smallest one on; it is written over by the next one.
func shared(many, sum int, yield func(l []int)) {
	l := make([]int, many)
	var from func(i, rest int)
	from = func(i, rest int) {
		if i == many-1 {
			l[i] = rest
			yield(l)
			return
		}
		for n := range rest + 1 {
			l[i] = n
			from(i+1, rest-n)
		}
	}
	if many > 0 && sum >= 0 {
		from(0, sum)
	}
}

// someCase returns a case of letters up to a width, with pairs of any kind.
func someCase(r *rand.Rand, wide int) api.LetterCase {
	c := api.LetterCase{Rim: r.Intn(3), Least: r.Intn(4), Blank: r.Intn(wide + 1)}
	for range 1 + r.Intn(api.MaxLetters) {
		c.Widths = append(c.Widths, 1+r.Intn(wide))
	}
	for range r.Intn(api.MaxLetterPairs + 1) {
		a, b := r.Intn(len(c.Widths)), r.Intn(len(c.Widths))
		if !slices.ContainsFunc(c.Pairs, func(p api.LetterPair) bool { return p.A == a && p.B == b }) {
			c.Pairs = append(c.Pairs, pair(a, b, r.Intn(2*api.MaxLetterMore+1)-api.MaxLetterMore))
		}
	}
	return c
}

// wideCase returns a case of any size.
func wideCase(r *rand.Rand) api.LetterCase {
	return changed(someCase(r, api.MaxLetterWidth), rim(r.Intn(api.MaxLetterRim+1)), least(r.Intn(api.MaxLetterLeast+1)))
}

// someWord returns a word of some letters, up to so many.
func someWord(r *rand.Rand, c api.LetterCase, most int) (out []int) {
	for range 1 + r.Intn(most) {
		out = append(out, r.Intn(len(c.Widths)))
	}
	return out
}

// someGaps returns gaps of a word, below a number.
func someGaps(r *rand.Rand, word []int, below int) (out []int) {
	for range len(word) - 1 {
		out = append(out, r.Intn(below))
	}
	return out
}

// arguments are all that the functions are given; short is the length of a plate on which the word does not go.
type arguments struct {
	c             api.LetterCase
	word, gaps    []int
	length, short int
	at            int
	words         [][]int
	plates        []int
	most          int
	blotted       []int
	measured      api.Span
}

// The places of the errors that are returned by all functions.
const (
	ofCheck = iota
	ofNeed
	ofLooks
	ofLay
	ofLeft
	ofWidest
	ofLines
	ofPick
	ofWrong
	ofCan
	functions
)

// all calls every function, and returns each one's error, and all their results.
func (a arguments) all() (errs [functions]api.Errno, results []any) {
	var e [functions]api.Errno
	e[ofCheck] = letter.Check(a.c)
	need, e1 := letter.Need(a.c, a.word)
	looks, looked, e2 := letter.Looks(a.c, a.word, a.gaps)
	gaps, laid, e3 := letter.Lay(a.c, a.word, a.length)
	left, e4 := letter.Left(a.c, a.word, a.short)
	widest, e5 := letter.Widest(a.c, a.word, a.at, a.length)
	begins, rest, e6 := letter.Lines(a.c, a.words, a.length)
	pick, e7 := letter.Pick(a.c, a.words, a.plates)
	wrong, e8 := letter.Wrong(a.c, a.word, a.gaps, a.most)
	can, e9 := letter.Can(a.c, a.blotted, a.gaps, a.measured)
	copy(e[ofNeed:], []api.Errno{e1, e2, e3, e4, e5, e6, e7, e8, e9})
	return e, []any{need, looks, looked, gaps, laid, left, widest, begins, rest, pick, wrong, can}
}

// zeroWith reports whether each function that returns an error returns nothing else.
func zeroWith(errs [functions]api.Errno, results []any) bool {
	of := list(ofNeed, ofLooks, ofLooks, ofLay, ofLay, ofLeft, ofWidest, ofLines, ofLines, ofPick, ofWrong, ofCan)
	for i, x := range results {
		if errs[of[i]] != api.OK && !isZero(x) {
			return false
		}
	}
	return true
}

func isZero(x any) bool {
	switch v := x.(type) {
	case int:
		return v == 0
	case []int:
		return len(v) == 0
	case [][]int:
		return len(v) == 0
	}
	return false
}

// fine returns arguments with which no function returns an error, and each returns something.
func fine() arguments {
	return arguments{
		c: example(), word: list(0, 1, 2, 3), gaps: list(2, 5, 9), length: 54, short: 34, at: 2,
		words: lists(list(0, 1), list(2, 3), list(3, 2)), plates: list(40, 25, 30, 50), most: 1,
		blotted: list(0, api.LetterBlot, 3, api.LetterBlot), measured: span(50, 60),
	}
}
