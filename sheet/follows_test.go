package sheet_test

import (
	"math/rand"
	"slices"
	"testing"

	"smalto/api"
	"smalto/sheet"
)

// comes calls Comes, which must not return an error.
func comes(t *testing.T, s api.SheetRules, l []api.SheetPlate, set []int) bool {
	t.Helper()
	ok, e := sheet.Comes(s, l, set)
	if e != api.OK {
		t.Error(s, l, set, e)
	}
	return ok
}

// P5.3, P5.11: Comes of all sets against all cuts, and all ways to part the plates; what comes out of a sheet comes out of a larger one, and so does each smaller set.
func TestWhatComes(t *testing.T) {
	r := rand.New(rand.NewSource(1))
	var yes, no [api.MaxSheetPlates + 1]int
	for i := range 900 {
		side := []int{6, 9, 12, 15, 30}[i%5]
		s := someRules(r, side)
		l := somePlates(r, api.MaxSheetPlates, some(r, 1, side), 1)
		truth := ironOf(s, l)
		sets(len(l), func(bits int, set []int) {
			want := truth.comes(part{s.Long, s.High, bits})
			if comes(t, s, l, set) != want {
				t.Error(s, l, set, want)
			}
			if !want {
				no[len(set)]++
				return
			}
			yes[len(set)]++
			longer, higher := s, s
			longer.Long, higher.High = min(s.Long+1, api.MaxSheetSide), min(s.High+1, api.MaxSheetSide)
			if !comes(t, longer, l, set) || !comes(t, higher, l, set) {
				t.Error(s, l, set)
			}
			for n := range set {
				if !comes(t, s, l, slices.Delete(slices.Clone(set), n, n+1)) {
					t.Error(s, l, set, n)
				}
			}
		})
	}
	if yes[2] < 200 || yes[3] < 200 || yes[4] < 50 || yes[5] < 5 || slices.Min(no[1:]) < 50 {
		t.Error("too few sets of a size:", yes, no)
	}
}

// everyCut yields each list of so many cuts of a sheet.
func everyCut(s api.SheetRules, many int, yield func(l []api.SheetCut)) {
	var from func(l []api.SheetCut)
	from = func(l []api.SheetCut) {
		if len(l) == many {
			yield(l)
			return
		}
		for piece := range len(l) + 1 {
			for at := 1; at < max(s.Long, s.High); at++ {
				for _, c := range cuts(upright(piece, at), across(piece, at)) {
					next := append(slices.Clone(l), c)
					if _, ok := pieces(s, next); ok {
						from(next)
					}
				}
			}
		}
	}
	from(nil)
}

// P5.3, P5.11: plates come out of a sheet just if one cut fewer than they are leaves pieces for all of them.
func TestComesByCuts(t *testing.T) {
	r := rand.New(rand.NewSource(2))
	yes, no := 0, 0
	for range 400 {
		s := someRules(r, 5)
		s.Kerf /= 2
		l := somePlates(r, 4, 3, 0)
		if len(l) < 2 {
			continue
		}
		found := false
		everyCut(s, len(l)-1, func(by []api.SheetCut) {
			to, e := sheet.Takes(s, l, by)
			if e != api.OK {
				t.Error(s, l, by, e)
			}
			found = found || !slices.Contains(to, -1)
		})
		all := list(0, 1, 2, 3)[:len(l)]
		if comes(t, s, l, all) != found {
			t.Error(s, l, found)
		}
		if found {
			yes++
		} else {
			no++
		}
	}
	if yes < 20 || no < 20 {
		t.Error("too few sets of a kind:", yes, no)
	}
}

// P5.4, P5.12: strips of each width are cut off, just if they are no wider than those of Rest.
func TestStrips(t *testing.T) {
	r := rand.New(rand.NewSource(3))
	wide, none, not := 0, 0, 0
	for i := range 1200 {
		side := []int{5, 8, 11, 25}[i%4]
		s := someRules(r, side)
		l := somePlates(r, 4, some(r, 1, side), 1)
		truth := ironOf(s, l)
		sets(len(l), func(bits int, set []int) {
			upright, across, e := sheet.Rest(s, l, set)
			if !truth.comes(part{s.Long, s.High, bits}) {
				not++
				if upright != 0 || across != 0 || e != api.ErrNone {
					t.Error(s, l, set, upright, across, e)
				}
				return
			}
			long, high := 0, 0
			for at := 1; at+s.Kerf < s.Long; at++ {
				if truth.comes(part{s.Long - at - s.Kerf, s.High, bits}) {
					long = at
				} else if at <= upright {
					t.Error(s, l, set, at, upright)
				}
			}
			for at := 1; at+s.Kerf < s.High; at++ {
				if truth.comes(part{s.Long, s.High - at - s.Kerf, bits}) {
					high = at
				} else if at <= across {
					t.Error(s, l, set, at, across)
				}
			}
			if upright != long || across != high || e != api.OK {
				t.Error(s, l, set, upright, across, e, long, high)
			}
			if len(set) < 2 {
				return
			}
			if upright > 0 && across > 0 {
				wide++
			} else if upright == 0 && across == 0 {
				none++
			}
		})
	}
	if wide < 100 || none < 50 || not < 1000 {
		t.Error("too few strips of a kind:", wide, none, not)
	}
}

// P5.5: Most against all sets of plates, of pieces smaller and larger than the sheet.
func TestMostOfAll(t *testing.T) {
	r := rand.New(rand.NewSource(4))
	var many [api.MaxSheetPlates + 1]int
	for i := range 1000 {
		side := []int{8, 10, 14, 30}[i%4]
		s := someRules(r, 30)
		l := somePlates(r, api.MaxSheetPlates, some(r, 1, side), 1)
		piece := size(some(r, 1, side), some(r, 1, side))
		truth := ironOf(s, l)
		var want []int
		sets(len(l), func(bits int, set []int) {
			if truth.comes(part{piece.Long, piece.High, bits}) && (len(set) > len(want) || len(set) == len(want) && slices.Compare(set, want) < 0) {
				want = set
			}
		})
		if got, e := sheet.Most(s, l, piece); !slices.Equal(got, want) || e != api.OK {
			t.Error(s, l, piece, got, e, want)
		}
		if len(want) < len(l) {
			many[len(want)]++
		}
	}
	if slices.Min(many[:4]) < 30 || many[4] < 8 {
		t.Error("too few pieces of a kind:", many)
	}
}

// fewest returns the smallest list of sheets out of which all plates come, of the fewest ones, by trying all lists; nil if there is none.
func fewest(s api.SheetRules, l []api.SheetPlate) []int {
	truth := ironOf(s, l)
	for many := 1; many <= len(l); many++ {
		var out []int
		lists(len(l), 0, many-1, func(to []int) {
			if out != nil {
				return
			}
			var held [api.MaxSheetPlates]int
			for plate, n := range to {
				held[n] += 1 << plate
			}
			for _, bits := range held {
				if !truth.comes(part{s.Long, s.High, bits}) {
					return
				}
			}
			out = slices.Clone(to)
		})
		if out != nil {
			return out
		}
	}
	return nil
}

// needed returns how many sheets a list of them has.
func needed(l []int) int { return len(slices.Compact(slices.Sorted(slices.Values(l)))) }

// P5.6, P5.13: Sheets against all lists of sheets, against Bound, and without a plate.
func TestFewestSheets(t *testing.T) {
	r := rand.New(rand.NewSource(5))
	var many [api.MaxSheetPlates + 1]int
	none, above := 0, 0
	for i := range 800 {
		side := []int{6, 12, 30}[i%3]
		s := someRules(r, side)
		l := somePlates(r, api.MaxSheetPlates, some(r, 1, side), i%2)
		got, e := sheet.Sheets(s, l)
		bound, e1 := sheet.Bound(s, l)
		if e1 != api.OK {
			t.Error(s, l, e1)
		}
		want := fewest(s, l)
		if want == nil && len(l) > 0 {
			none++
			if len(got) != 0 || e != api.ErrNone {
				t.Error(s, l, got, e)
			}
			continue
		}
		if !slices.Equal(got, want) || e != api.OK || needed(got) < bound {
			t.Error(s, l, got, e, want, bound)
		}
		many[needed(got)]++
		if needed(got) > bound {
			above++
		}
		for n := range needed(got) {
			var set []int
			for plate, to := range got {
				if to == n {
					set = append(set, plate)
				}
			}
			if len(set) == 0 || !comes(t, s, l, set) {
				t.Error(s, l, got, n)
			}
		}
		for n := range l {
			if less, e := sheet.Sheets(s, slices.Delete(slices.Clone(l), n, n+1)); needed(less) > needed(got) || e != api.OK {
				t.Error(s, l, n, less, e)
			}
		}
	}
	if none < 100 || above < 50 || slices.Min(many[:4]) < 20 || many[4] < 2 {
		t.Error("too few lists of a kind:", none, above, many)
	}
}

// P5.7: Bound is the least number of sheets that cover as much as the blanks do.
func TestBounds(t *testing.T) {
	r := rand.New(rand.NewSource(6))
	even := 0
	for range 2000 {
		s := someRules(r, []int{3, 30}[r.Intn(2)])
		l := somePlates(r, api.MaxSheetPlates, 30, api.MaxSheetRim)
		covered := 0
		for _, p := range l {
			covered += (p.Long + 2*p.Rim) * (p.High + 2*p.Rim)
		}
		bound, e := sheet.Bound(s, l)
		if one := s.Long * s.High; bound*one < covered || bound > 0 && (bound-1)*one >= covered || bound < 0 || e != api.OK {
			t.Error(s, l, bound, e)
		}
		if len(l) > 0 && bound*s.Long*s.High == covered {
			even++
		}
	}
	if even < 50 {
		t.Error("too few sheets that are covered just so:", even)
	}
}

// P5.8, P5.14: Pieces of cuts that are made one after another; they cover what the sheet does, less what the cuts lose.
func TestPiecesOfAll(t *testing.T) {
	r := rand.New(rand.NewSource(7))
	var many [api.MaxSheetCuts + 1]int
	for range 5000 {
		s := someRules(r, 30)
		l := someCuts(r, s, some(r, 0, 15))
		many[len(l)]++
		want, _ := pieces(s, l)
		got, e := sheet.Pieces(s, l)
		if !slices.Equal(got, want) || e != api.OK {
			t.Error(s, l, got, e, want)
		}
		covered := 0
		for _, p := range got {
			covered += p.Long * p.High
		}
		for i, c := range l {
			before, e := sheet.Pieces(s, l[:i])
			if e != api.OK {
				t.Error(s, l, i, e)
			}
			if whole := before[c.Piece]; c.Across {
				covered += s.Kerf * whole.Long
			} else {
				covered += s.Kerf * whole.High
			}
		}
		if covered != s.Long*s.High {
			t.Error(s, l, covered)
		}
	}
	if slices.Min(many[:]) < 50 {
		t.Error("too few cuts of a number:", many)
	}
}

// P5.1: a cut that cannot be made is an error, of the first one of several.
func TestCutsThatCannotBeMade(t *testing.T) {
	r := rand.New(rand.NewSource(8))
	none, ranged := 0, 0
	for range 5000 {
		s := someRules(r, 30)
		l := someCuts(r, s, some(r, 0, 6))
		next := api.SheetCut{Piece: some(r, -1, len(l)+1), Across: r.Intn(2) == 0, At: some(r, -1, 31)}
		all := append(slices.Clone(l), next, api.SheetCut{Piece: some(r, -1, 9), Across: r.Intn(2) == 0, At: some(r, -1, 31)})
		if _, ok := pieces(s, all[:len(l)+1]); ok {
			continue
		}
		want := api.ErrRange
		if next.Piece < 0 || next.Piece > len(l) {
			want = api.ErrNone
			none++
		} else {
			ranged++
		}
		if got, e := sheet.Pieces(s, all); len(got) != 0 || e != want {
			t.Error(s, all, got, e, want)
		}
		if got, e := sheet.Takes(s, nil, all); len(got) != 0 || e != want {
			t.Error(s, all, got, e, want)
		}
	}
	if none < 200 || ranged < 200 {
		t.Error("too few cuts of a kind:", none, ranged)
	}
}

// P5.9, P5.10, P5.14: Takes against all lists, and Spoiled against how many plates are taken after each cut; all that are taken come out of the sheet together.
func TestTakenAndSpoiled(t *testing.T) {
	r := rand.New(rand.NewSource(9))
	var many [api.MaxSheetPlates + 1]int
	lefts, spoils, twice := 0, 0, 0
	for range 6000 {
		s := someRules(r, []int{12, 30}[r.Intn(2)])
		l := somePlates(r, 4, some(r, 1, 12), 1)
		by := someCuts(r, s, some(r, 0, 12))
		var wrong []int
		before := 0
		for n := range len(by) + 1 {
			from, _ := pieces(s, by[:n])
			want, most := takes(l, from)
			got, e := sheet.Takes(s, l, by[:n])
			if !slices.Equal(got, want) || e != api.OK {
				t.Error(s, l, by[:n], got, e, want)
			}
			if most < before {
				wrong = append(wrong, n-1)
			}
			before = most
			many[most]++
			var set []int
			for plate, to := range got {
				if to >= 0 {
					set = append(set, plate)
				}
			}
			if !comes(t, s, l, set) {
				t.Error(s, l, by[:n], got)
			}
			if len(set) > 0 && len(set) < len(l) {
				lefts++
			}
		}
		if got, e := sheet.Spoiled(s, l, by); !slices.Equal(got, wrong) || e != api.OK {
			t.Error(s, l, by, got, e, wrong)
		}
		spoils += min(len(wrong), 1)
		twice += max(len(wrong)-1, 0)
	}
	if slices.Min(many[:5]) < 50 || lefts < 500 || spoils < 100 || twice < 3 {
		t.Error("too few cuts of a kind:", many, lefts, spoils, twice)
	}
}
