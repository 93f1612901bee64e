package sheet_test

import (
	"math/rand"
	"slices"

	"smalto/api"
	"smalto/sheet"
)

// list, rules, size, sizes, plate, grain, plates, upright, across and cuts keep the tables of tests short.
func list(l ...int) []int { return l }

func rules(long, high, kerf int) api.SheetRules {
	return api.SheetRules{Long: long, High: high, Kerf: kerf}
}

func size(long, high int) api.SheetSize { return api.SheetSize{Long: long, High: high} }

func sizes(l ...api.SheetSize) []api.SheetSize { return l }

func plate(long, high, rim int) api.SheetPlate {
	return api.SheetPlate{Long: long, High: high, Rim: rim}
}

func grain(long, high, rim int) api.SheetPlate {
	return api.SheetPlate{Long: long, High: high, Rim: rim, Grain: true}
}

func plates(l ...api.SheetPlate) []api.SheetPlate { return l }

func upright(piece, at int) api.SheetCut { return api.SheetCut{Piece: piece, At: at} }

func across(piece, at int) api.SheetCut { return api.SheetCut{Piece: piece, Across: true, At: at} }

func cuts(l ...api.SheetCut) []api.SheetCut { return l }

// example and four are the sheet and the plates of the chapter's examples.
func example() api.SheetRules { return rules(20, 12, 1) }

func four() []api.SheetPlate {
	return plates(plate(8, 4, 1), grain(7, 3, 1), plate(10, 3, 0), grain(16, 8, 1))
}

// part is a piece, and plates that are to come out of it, by bits.
type part struct{ long, high, plates int }

// iron tells what comes out of pieces as the chapter's section "Types" says it.
type iron struct {
	kerf  int
	l     []api.SheetPlate
	known map[part]bool
}

func ironOf(r api.SheetRules, l []api.SheetPlate) iron { return iron{r.Kerf, l, map[part]bool{}} }

// taken reports whether a plate is taken out of a piece.
func taken(p api.SheetPlate, long, high int) bool {
	a, b := p.Long+p.Rim+p.Rim, p.High+p.Rim+p.Rim
	return a <= long && b <= high || !p.Grain && b <= long && a <= high
}

// comes reports whether plates come out of a piece, by trying all cuts of it, and all ways to part them.
func (i iron) comes(p part) bool {
	if p.plates == 0 {
		return true
	}
	out, ok := i.known[p]
	if !ok {
		out = i.single(p) || i.cut(p)
		i.known[p] = out
	}
	return out
}

func (i iron) single(p part) bool {
	for n, x := range i.l {
		if p.plates == 1<<n {
			return taken(x, p.long, p.high)
		}
	}
	return false
}

func (i iron) cut(p part) bool {
	for these := range p.plates + 1 {
		if these&p.plates != these {
			continue
		}
		rest := p.plates - these
		for at := 1; at+i.kerf < p.long; at++ {
			if i.comes(part{at, p.high, these}) && i.comes(part{p.long - at - i.kerf, p.high, rest}) {
				return true
			}
		}
		for at := 1; at+i.kerf < p.high; at++ {
			if i.comes(part{p.long, at, these}) && i.comes(part{p.long, p.high - at - i.kerf, rest}) {
				return true
			}
		}
	}
	return false
}

// sets yields, by bits, all sets of so many plates.
func sets(many int, yield func(bits int, set []int)) {
	for bits := range 1 << many {
		var set []int
		for n := range many {
			if bits>>n&1 == 1 {
				set = append(set, n)
			}
		}
		yield(bits, set)
	}
}

// lists yields each list of so many numbers from low to high, from the smallest one on; it is written over by the next one.
func lists(many, low, high int, yield func(l []int)) {
	l := make([]int, many)
	var from func(i int)
	from = func(i int) {
		if i == many {
			yield(l)
			return
		}
		for l[i] = low; l[i] <= high; l[i]++ {
			from(i + 1)
		}
	}
	from(0)
}

// pieces returns the pieces after some cuts, each of which is made as the chapter says, or that there is one that cannot be made.
func pieces(r api.SheetRules, l []api.SheetCut) (out []api.SheetSize, ok bool) {
	out = sizes(size(r.Long, r.High))
	for _, c := range l {
		if c.Piece < 0 || c.Piece >= len(out) {
			return nil, false
		}
		one := out[c.Piece]
		other := one
		if c.Across {
			one.High, other.High = c.At, one.High-c.At-r.Kerf
		} else {
			one.Long, other.Long = c.At, one.Long-c.At-r.Kerf
		}
		if min(one.Long, one.High, other.Long, other.High) < 1 {
			return nil, false
		}
		out[c.Piece] = one
		out = append(out, other)
	}
	return out, true
}

// takes returns the smallest of the lists by which the most plates are taken out of pieces, and how many that are.
func takes(l []api.SheetPlate, from []api.SheetSize) (out []int, most int) {
	most = -1
	lists(len(l), -1, len(from)-1, func(to []int) {
		many := 0
		for i, n := range to {
			if n < 0 {
				continue
			}
			if slices.Contains(to[:i], n) || !taken(l[i], from[n].Long, from[n].High) {
				return
			}
			many++
		}
		if many > most {
			out, most = slices.Clone(to), many
		}
	})
	return out, most
}

// some returns a number from low to high.
func some(r *rand.Rand, low, high int) int { return low + r.Intn(high-low+1) }

// someRules returns a sheet of at most so many inches.
func someRules(r *rand.Rand, side int) api.SheetRules {
	return rules(some(r, 1, side), some(r, 1, side), some(r, 0, api.MaxSheetKerf))
}

// somePlates returns at most so many plates, of at most so many inches, whose rims are bent at most so far.
func somePlates(r *rand.Rand, many, side, rim int) []api.SheetPlate {
	var out []api.SheetPlate
	for range some(r, 0, many) {
		p := plate(some(r, 1, side), some(r, 1, side), some(r, 0, rim))
		p.Grain = r.Intn(2) == 0
		out = append(out, p)
	}
	return out
}

// someCuts returns at most so many cuts of a sheet, each of which can be made.
func someCuts(r *rand.Rand, s api.SheetRules, many int) []api.SheetCut {
	var out []api.SheetCut
	for range many {
		c := api.SheetCut{Piece: some(r, 0, len(out)), Across: r.Intn(2) == 0, At: some(r, 1, some(r, 1, api.MaxSheetSide))}
		if next := append(slices.Clone(out), c); len(next) <= api.MaxSheetCuts {
			if _, ok := pieces(s, next); ok {
				out = next
			}
		}
	}
	return out
}

// arguments are all that the functions are given.
type arguments struct {
	r     api.SheetRules
	l     []api.SheetPlate
	set   []int
	piece api.SheetSize
	cuts  []api.SheetCut
}

// The places of the errors that are returned by all functions.
const (
	ofCheck = iota
	ofBlanks
	ofComes
	ofRest
	ofMost
	ofSheets
	ofBound
	ofPieces
	ofTakes
	ofSpoiled
	functions
)

// all calls every function, and returns each one's error, and all their results.
func (a arguments) all() (errs [functions]api.Errno, results []any) {
	var e [functions]api.Errno
	e[ofCheck] = sheet.Check(a.r, a.l)
	blanks, e1 := sheet.Blanks(a.r, a.l)
	comes, e2 := sheet.Comes(a.r, a.l, a.set)
	long, high, e3 := sheet.Rest(a.r, a.l, a.set)
	most, e4 := sheet.Most(a.r, a.l, a.piece)
	sheets, e5 := sheet.Sheets(a.r, a.l)
	bound, e6 := sheet.Bound(a.r, a.l)
	after, e7 := sheet.Pieces(a.r, a.cuts)
	taken, e8 := sheet.Takes(a.r, a.l, a.cuts)
	spoiled, e9 := sheet.Spoiled(a.r, a.l, a.cuts)
	copy(e[ofBlanks:], []api.Errno{e1, e2, e3, e4, e5, e6, e7, e8, e9})
	return e, []any{blanks, comes, long, high, most, sheets, bound, after, taken, spoiled}
}

// zeroWith reports whether each function that returns an error returns nothing else.
func zeroWith(errs [functions]api.Errno, results []any) bool {
	of := list(ofBlanks, ofComes, ofRest, ofRest, ofMost, ofSheets, ofBound, ofPieces, ofTakes, ofSpoiled)
	for i, x := range results {
		if errs[of[i]] != api.OK && !isZero(x) {
			return false
		}
	}
	return true
}

func isZero(x any) bool {
	switch v := x.(type) {
	case bool:
		return !v
	case int:
		return v == 0
	case []int:
		return len(v) == 0
	case []api.SheetSize:
		return len(v) == 0
	}
	return false
}

// fine returns arguments with which no function returns an error, and each returns something.
func fine() arguments {
	return arguments{
		r: example(), l: four(), set: list(0, 1, 2), piece: size(12, 9),
		cuts: cuts(upright(0, 10), across(0, 6), upright(0, 4)),
	}
}
