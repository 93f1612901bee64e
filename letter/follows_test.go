package letter_test

import (
	"math/rand"
	"slices"
	"testing"

	"smalto/api"
	"smalto/letter"
)

// P4.2, P4.3: Need and Looks of words and gaps of any size.
func TestNeedsAndLooks(t *testing.T) {
	r := rand.New(rand.NewSource(1))
	for range 5000 {
		c := wideCase(r)
		word := someWord(r, c, api.MaxLetterWord)
		if need, e := letter.Need(c, word); need != needs(c, word) || e != api.OK {
			t.Error(c, word, need, e)
		}
		gaps := someGaps(r, word, []int{3, 12, 401}[r.Intn(3)])
		want := lay(c, word).looks(gaps)
		looks, off, e := letter.Looks(c, word, gaps)
		if !slices.Equal(looks, want) || off != spread(want) || e != api.OK {
			t.Error(c, word, gaps, looks, off, e)
		}
	}
}

// P4.4, P4.11: Lay against all gaps that fill the plate.
func TestLaidAlike(t *testing.T) {
	r := rand.New(rand.NewSource(2))
	var spreads [api.MaxLetterMore + 1]int
	full, several := 0, 0
	for range 3000 {
		c := someCase(r, 3)
		word := someWord(r, c, 5)
		w := lay(c, word)
		length := max(w.needs()-1+r.Intn(8), 1)
		var best []int
		few, as := -1, 0
		shared(len(word)-1, length-total(w.widths)-2*w.rim, func(gaps []int) {
			if !w.fills(gaps, length) {
				return
			}
			looks := spread(w.looks(gaps))
			if few < 0 || looks < few {
				best, few, as = slices.Clone(gaps), looks, 0
			}
			if looks == few {
				as++
			}
		})
		if len(word) == 1 && length >= w.needs() {
			few = 0
		}
		gaps, off, e := letter.Lay(c, word, length)
		if few < 0 {
			full++
			if len(gaps) != 0 || off != 0 || e != api.ErrFull || length >= w.needs() {
				t.Error(c, word, length, gaps, off, e)
			}
			continue
		}
		if !slices.Equal(gaps, best) || off != few || e != api.OK {
			t.Error(c, word, length, gaps, off, e, best, few)
		}
		spreads[few]++
		if as > 1 {
			several++
		}
	}
	if full < 50 || several < 100 || spreads[0] < 100 || spreads[1] < 100 || spreads[2] < 50 || spreads[3] < 20 || spreads[4] < 5 || spreads[5] < 2 {
		t.Error("too few words of a kind:", full, several, spreads)
	}
}

// P4.11: words of any size fill their plates, no gap looks less than Least, no others that are tried look more alike, and what goes on a plate goes on a longer one.
func TestLaid(t *testing.T) {
	r := rand.New(rand.NewSource(3))
	better := 0
	for range 2000 {
		c := wideCase(r)
		word := someWord(r, c, api.MaxLetterWord)
		w := lay(c, word)
		length := min(w.needs()+r.Intn(60), api.MaxLetterLength)
		gaps, off, e := letter.Lay(c, word, length)
		looks := w.looks(gaps)
		if e != api.OK || len(gaps) != len(word)-1 || len(gaps) > 0 && (!w.fills(gaps, length) || slices.Min(looks) < c.Least) || off != spread(looks) {
			t.Fatal(c, word, length, gaps, off, e)
		}
		for range 20 {
			other := slices.Clone(gaps)
			for range 1 + r.Intn(2) {
				if len(other) > 1 {
					i, j := r.Intn(len(other)), r.Intn(len(other))
					other[i]--
					other[j]++
				}
			}
			if len(other) < 2 || !w.fills(other, length) {
				continue
			}
			if looks := spread(w.looks(other)); looks < off || looks == off && slices.Compare(other, gaps) < 0 {
				t.Error(c, word, length, gaps, other)
			}
			better++
		}
		for longer := length; longer <= api.MaxLetterLength; longer += 1 + r.Intn(50) {
			if _, _, e := letter.Lay(c, word, longer); e != api.OK {
				t.Error(c, word, longer, e)
			}
		}
		if w.needs() > 1 {
			if _, _, e := letter.Lay(c, word, w.needs()-1); e != api.ErrFull {
				t.Error(c, word, e)
			}
		}
	}
	if better < 10000 {
		t.Error("too few gaps that were tried:", better)
	}
}

// P4.5, P4.12: Left against all sets of letters.
func TestLeftOut(t *testing.T) {
	r := rand.New(rand.NewSource(4))
	var sizes [api.MaxLetterWord + 1]int
	none := 0
	for range 4000 {
		c := someCase(r, 6)
		word := someWord(r, c, api.MaxLetterWord)
		length := 1 + r.Intn(needs(c, word)+2)
		var best []int
		found := false
		parts(len(word), func(in, out []int) {
			if len(out) > 0 && needs(c, at(word, out)) <= length && (!found || fewer(in, best)) {
				best, found = in, true
			}
		})
		left, e := letter.Left(c, word, length)
		want := api.OK
		switch {
		case !found:
			want = api.ErrState
			none++
		case len(best) == 0:
			want = api.ErrTwice
		}
		if !slices.Equal(left, best) || e != want {
			t.Error(c, word, length, left, e, best, want)
		}
		goes := slices.ContainsFunc(word, func(l int) bool { return needs(c, list(l)) <= length })
		if goes == (e == api.ErrState) {
			t.Error(c, word, length, e)
		}
		if found {
			sizes[len(best)]++
		}
	}
	if none < 100 || slices.Min(sizes[:api.MaxLetterWord]) < 20 || sizes[api.MaxLetterWord] != 0 {
		t.Error("too few words of a kind:", none, sizes)
	}
}

// P4.6, P4.12: Widest against all widths.
func TestWidestGoes(t *testing.T) {
	r := rand.New(rand.NewSource(5))
	full, most, between := 0, 0, 0
	for range 4000 {
		c := wideCase(r)
		word := someWord(r, c, api.MaxLetterWord)
		place := r.Intn(len(word))
		length := min(max(needs(c, word)-25+r.Intn(50), 1), api.MaxLetterLength)
		w := lay(c, word)
		for _, gap := range list(place-1, place) {
			if 0 <= gap && gap < len(w.more) {
				w.more[gap] = 0
			}
		}
		best := 0
		for width := 1; width <= api.MaxLetterWidth; width++ {
			w.widths[place] = width
			if w.needs() <= length {
				best = width
			}
		}
		width, e := letter.Widest(c, word, place, length)
		if width != best || (e == api.OK) != (best > 0) || best == 0 && e != api.ErrFull {
			t.Error(c, word, place, length, width, e, best)
		}
		switch best {
		case 0:
			full++
		case api.MaxLetterWidth:
			most++
		default:
			between++
		}
	}
	if full < 200 || most < 200 || between < 200 {
		t.Error("too few widths of a kind:", full, most, between)
	}
}

// rests returns the rests of lines that begin with some words.
func rests(c api.LetterCase, words [][]int, begins []int, length int) (out []int) {
	for i, word := range words {
		long := needs(c, word)
		if slices.Contains(begins, i) {
			out = append(out, length-long)
		} else {
			out[len(out)-1] -= c.Blank + long - 2*c.Rim
		}
	}
	return out
}

// P4.7, P4.13: Lines against all ways to break words into lines.
func TestFewestLines(t *testing.T) {
	r := rand.New(rand.NewSource(6))
	var sizes [api.MaxLetterWords + 1]int
	full, several := 0, 0
	for range 4000 {
		c := someCase(r, 6)
		var words [][]int
		longest := 0
		for range 1 + r.Intn(api.MaxLetterWords) {
			words = append(words, someWord(r, c, 4))
			longest = max(longest, needs(c, words[len(words)-1]))
		}
		length := max(longest-2+r.Intn(25), 1)
		var best []int
		few, as := 0, 0
		parts(len(words), func(begins, rest []int) {
			if len(begins) == 0 || begins[0] != 0 {
				return
			}
			left := rests(c, words, begins, length)
			if slices.Min(left) < 0 || best != nil && len(begins) > len(best) {
				return
			}
			greatest := slices.Max(left)
			as++
			if best == nil || len(begins) < len(best) || greatest < few || greatest == few && fewer(begins, best) {
				best, few = begins, greatest
			}
		})
		begins, rest, e := letter.Lines(c, words, length)
		if best == nil {
			full++
			if len(begins) != 0 || rest != 0 || e != api.ErrFull || longest <= length {
				t.Error(c, words, length, begins, rest, e)
			}
			continue
		}
		if !slices.Equal(begins, best) || rest != few || e != api.OK {
			t.Error(c, words, length, begins, rest, e, best, few)
		}
		sizes[len(best)]++
		if as > 2 {
			several++
		}
	}
	if full < 100 || several < 200 || sizes[1] < 200 || sizes[2] < 200 || sizes[3] < 100 || sizes[4] < 50 || sizes[5] < 20 {
		t.Error("too few lines of a kind:", full, several, sizes)
	}
}

// P4.8, P4.13: Pick against all lists of plates.
func TestShortestPlates(t *testing.T) {
	r := rand.New(rand.NewSource(7))
	var sizes [api.MaxLetterWords + 1]int
	none := 0
	for range 1500 {
		c := someCase(r, 6)
		var words [][]int
		var plates []int
		for range r.Intn(api.MaxLetterWords + 1) {
			words = append(words, someWord(r, c, 4))
		}
		for range r.Intn(api.MaxLetterPlates + 1) {
			plates = append(plates, 10+2*r.Intn(12))
		}
		var best []int
		few, found := 0, false
		all(len(words), len(plates), func(pick []int) {
			for i, plate := range pick {
				if slices.Contains(pick[:i], plate) || needs(c, words[i]) > plates[plate] {
					return
				}
			}
			if long := total(at(plates, pick)); !found || long < few {
				best, few, found = slices.Clone(pick), long, true
			}
		})
		pick, e := letter.Pick(c, words, plates)
		if !found {
			none++
			if len(pick) != 0 || e != api.ErrState {
				t.Error(c, words, plates, pick, e)
			}
			continue
		}
		if !slices.Equal(pick, best) || e != api.OK {
			t.Error(c, words, plates, pick, e, best)
		}
		sizes[len(words)]++
	}
	if none < 200 || sizes[0] < 100 || sizes[1] < 100 || sizes[2] < 100 || sizes[3] < 50 || sizes[4] < 20 || sizes[5] < 5 {
		t.Error("too few lists of a kind:", none, sizes)
	}
}

// P4.9, P4.14: Wrong against all sets of gaps; with any one of the wrong ones the others do not look alike.
func TestWrongGaps(t *testing.T) {
	r := rand.New(rand.NewSource(8))
	var sizes [api.MaxLetterWord]int
	for range 6000 {
		c := someCase(r, 6)
		word := someWord(r, c, api.MaxLetterWord)
		gaps := someGaps(r, word, 12)
		most := r.Intn(6)
		looks := lay(c, word).looks(gaps)
		var best, rest []int
		found := false
		parts(len(gaps), func(in, out []int) {
			if spread(at(looks, out)) <= most && (!found || fewer(in, best)) {
				best, rest, found = in, out, true
			}
		})
		wrong, e := letter.Wrong(c, word, gaps, most)
		if !slices.Equal(wrong, best) || (e == api.OK) != (len(best) > 0) || len(best) == 0 && e != api.ErrTwice {
			t.Error(c, word, gaps, most, wrong, e, best)
		}
		for _, gap := range wrong {
			if spread(at(looks, append(slices.Clone(rest), gap))) <= most {
				t.Error(c, word, gaps, most, wrong, gap)
			}
		}
		sizes[len(best)]++
	}
	if slices.Min(sizes[:5]) < 50 || sizes[5] < 10 {
		t.Error("too few words of a kind:", sizes)
	}
}

// P4.14: if some gaps of a word that was laid are changed, no more than these must be wrong.
func TestChangedGaps(t *testing.T) {
	r := rand.New(rand.NewSource(9))
	just, less := 0, 0
	for range 4000 {
		c := wideCase(r)
		word := someWord(r, c, api.MaxLetterWord)
		gaps, most, e := letter.Lay(c, word, min(needs(c, word)+r.Intn(60), api.MaxLetterLength))
		if e != api.OK || len(gaps) == 0 {
			continue
		}
		if wrong, e := letter.Wrong(c, word, gaps, most); len(wrong) != 0 || e != api.ErrTwice {
			t.Error(c, word, gaps, most, wrong, e)
		}
		changed := r.Perm(len(gaps))[:1+r.Intn(len(gaps))]
		for _, gap := range changed {
			gaps[gap] = r.Intn(40)
		}
		wrong, e := letter.Wrong(c, word, gaps, most)
		if len(wrong) > len(changed) || e != api.OK && e != api.ErrTwice {
			t.Error(c, word, gaps, most, wrong, e, changed)
		}
		if len(wrong) == len(changed) {
			just++
		} else {
			less++
		}
	}
	if just < 200 || less < 200 {
		t.Error("too few words of a kind:", just, less)
	}
}

// readings returns for each blot of a word the letters that it can be, by trying all letters at all blots, and whether there are any.
func readings(c api.LetterCase, word, gaps []int, length api.Span) (out [][]int, ok bool) {
	var places []int
	for i, l := range word {
		if l == api.LetterBlot {
			places = append(places, i)
		}
	}
	out = make([][]int, len(places))
	all(len(places), len(c.Widths), func(letters []int) {
		full := slices.Clone(word)
		for i, place := range places {
			full[place] = letters[i]
		}
		long := total(lay(c, full).widths) + total(gaps) + 2*c.Rim
		if long < length.Low || long > length.High {
			return
		}
		ok = true
		for i, l := range letters {
			if !slices.Contains(out[i], l) {
				out[i] = append(out[i], l)
				slices.Sort(out[i])
			}
		}
	})
	return out, ok
}

// within reports whether each of some lists has only elements of the same one of others.
func within(l, of [][]int) bool {
	for i := range l {
		if slices.ContainsFunc(l[i], func(x int) bool { return !slices.Contains(of[i], x) }) {
			return false
		}
	}
	return len(l) == len(of)
}

// P4.10, P4.15: Can against all letters; each true letter is among them, and with a narrower length none is added.
func TestWhatItCanHaveBeen(t *testing.T) {
	r := rand.New(rand.NewSource(10))
	none, narrow := 0, 0
	var many [api.MaxLetterBlots + 1]int
	for range 4000 {
		c := wideCase(r)
		word := someWord(r, c, api.MaxLetterWord)
		gaps := someGaps(r, word, 10)
		long := total(lay(c, word).widths) + total(gaps) + 2*c.Rim
		if long > api.MaxLetterLength {
			continue
		}
		length := span(max(long-r.Intn(8), 1), min(long+r.Intn(8), api.MaxLetterLength))
		blotted := slices.Clone(word)
		blots := r.Perm(len(word))[:r.Intn(min(len(word), api.MaxLetterBlots)+1)]
		slices.Sort(blots)
		for _, i := range blots {
			blotted[i] = api.LetterBlot
		}
		can, e := letter.Can(c, blotted, gaps, length)
		want, _ := readings(c, blotted, gaps, length)
		if !slices.EqualFunc(can, want, slices.Equal[[]int]) || e != api.OK {
			t.Error(c, blotted, gaps, length, can, e, want)
		}
		for i, place := range blots {
			if !slices.Contains(can[i], word[place]) {
				t.Error(c, word, blotted, gaps, length, can)
			}
		}
		many[len(blots)]++
		narrower := span(length.Low+r.Intn(3), length.High-r.Intn(3))
		if narrower.Low > narrower.High {
			continue
		}
		fewer, e := letter.Can(c, blotted, gaps, narrower)
		if want, ok := readings(c, blotted, gaps, narrower); ok != (e == api.OK) || !ok && e != api.ErrState || ok && !slices.EqualFunc(fewer, want, slices.Equal[[]int]) {
			t.Error(c, blotted, gaps, narrower, fewer, e, want)
		}
		if e != api.OK {
			none++
			continue
		}
		if !within(fewer, can) {
			t.Error(c, blotted, gaps, length, narrower, can, fewer)
		}
		if !slices.EqualFunc(fewer, can, slices.Equal[[]int]) {
			narrow++
		}
	}
	if none < 50 || narrow < 200 || many[0] < 200 || many[1] < 200 || many[2] < 200 {
		t.Error("too few words of a kind:", none, narrow, many)
	}
}
