package furnace_test

import (
	"math/rand"
	"slices"
	"testing"

	"smalto/api"
	"smalto/furnace"
)

// known is a furnace with all its truths.
type known struct {
	api.FurnaceOven
	without, truths [][]int
}

// someKnown returns furnaces of which some notes may be wrong, with all their truths, of which there is one at least.
func someKnown(r *rand.Rand, many int) []known {
	var out []known
	for len(out) < many {
		o, _ := someOven(r, 1+r.Intn(4), r.Intn(2))
		all := places(o)
		if x := truths(o, all); len(x) > 0 {
			out = append(out, known{o, all, x})
		}
	}
	return out
}

// where returns the places for which something is so in all truths, and in one at least.
func (k known) where(is func(place int, x []int) bool) (surely, possibly []int) {
	for place := range k.Heats {
		many := 0
		for _, x := range k.truths {
			if is(place, x) {
				many++
			}
		}
		if many == len(k.truths) {
			surely = append(surely, place)
		}
		if many > 0 {
			possibly = append(possibly, place)
		}
	}
	return surely, possibly
}

// P2.2, P2.3, P2.11: Heats and Apart against all truths; all places have their least heats in one of them, and their greatest ones.
func TestInAllTruths(t *testing.T) {
	narrow := 0
	for _, k := range someKnown(rand.New(rand.NewSource(1)), 600) {
		heats, e := furnace.Heats(k.FurnaceOven)
		if !slices.Equal(heats, heatsOver(k.truths)) || e != api.OK {
			t.Error(k.FurnaceOven, heats, e)
		}
		if !slices.Equal(heats, k.Heats) {
			narrow++
		}
		for a := range k.Heats {
			for b := range k.Heats {
				apart, e := furnace.Apart(k.FurnaceOven, a, b)
				if want := over(k.truths, func(x []int) int { return x[a] - x[b] }); apart != want || e != api.OK {
					t.Error(k.FurnaceOven, a, b, apart, e)
				}
			}
		}
		var low, high []int
		for _, h := range heats {
			low, high = append(low, h.Low), append(high, h.High)
		}
		for _, ends := range [][]int{low, high} {
			if !slices.ContainsFunc(k.truths, func(x []int) bool { return slices.Equal(x, ends) }) {
				t.Error(k.FurnaceOven, ends)
			}
		}
	}
	if narrow < 200 {
		t.Error("too few furnaces are known better:", narrow)
	}
}

// P2.4, P2.5: Places and Hottest against all truths.
func TestPlacesInAllTruths(t *testing.T) {
	r := rand.New(rand.NewSource(2))
	sure, perhaps, hot := 0, 0, 0
	for _, k := range someKnown(r, 600) {
		for range 6 {
			w := someWare(r, k.Heats[0].Low)
			surely, possibly, e := furnace.Places(k.FurnaceOven, w)
			a, b := k.where(func(place int, x []int) bool { return how(w, x[place]) == api.FurnaceGood })
			if !slices.Equal(surely, a) || !slices.Equal(possibly, b) || e != api.OK {
				t.Error(k.FurnaceOven, w, surely, possibly, e)
			}
			sure += len(surely)
			perhaps += len(possibly)
		}
		surely, possibly, e := furnace.Hottest(k.FurnaceOven)
		a, b := k.where(func(place int, x []int) bool { return slices.Max(x) == x[place] })
		if !slices.Equal(surely, a) || !slices.Equal(possibly, b) || e != api.OK {
			t.Error(k.FurnaceOven, surely, possibly, e)
		}
		hot += len(surely)
	}
	if sure < 300 || perhaps < sure+300 || hot < 100 {
		t.Error("too few places of a kind:", sure, perhaps, hot)
	}
}

// allFillings returns all lists of places of some wares, from the smallest one on, each ware at one of the places or at none, no two at one.
func allFillings(many, wares int) [][]int {
	out := [][]int{nil}
	for range wares {
		var next [][]int
		for _, l := range out {
			for place := -1; place < many; place++ {
				if place < 0 || !slices.Contains(l, place) {
					next = append(next, slices.Concat(l, list(place)))
				}
			}
		}
		out = next
	}
	return out
}

// P2.6, P2.13: Fill against all lists of places and all truths.
func TestFillInAllTruths(t *testing.T) {
	r := rand.New(rand.NewSource(3))
	put, left := 0, 0
	for _, k := range someKnown(r, 300) {
		var l []api.FurnaceWare
		good := make([][]int, r.Intn(api.MaxFurnaceWares+1))
		for i := range good {
			w := someWare(r, k.Heats[0].Low)
			w.Fires, w.Runs = max(w.Fires-3, 0), min(w.Runs+3, api.MaxFurnaceHeat)
			l = append(l, w)
			good[i], _ = k.where(func(place int, x []int) bool { return how(w, x[place]) == api.FurnaceGood })
		}
		var best []int
		most := -1
		for _, x := range allFillings(len(k.Heats), len(l)) {
			many, ok := 0, true
			for i, place := range x {
				if place >= 0 {
					many++
					ok = ok && slices.Contains(good[i], place)
				}
			}
			if ok && many > most {
				best, most = x, many
			}
		}
		if fill, e := furnace.Fill(k.FurnaceOven, l); !slices.Equal(fill, best) || e != api.OK {
			t.Error(k.FurnaceOven, l, fill, e, best)
		}
		put += most
		left += len(l) - most
	}
	if put < 200 || left < 200 {
		t.Error("too few wares of a kind:", put, left)
	}
}

// P2.7, P2.13: Turn against all degrees and all truths: at each degree of Turn all wares come out good, at no other one.
func TestTurnInAllTruths(t *testing.T) {
	r := rand.New(rand.NewSource(4))
	found, none := 0, 0
	for _, k := range someKnown(r, 300) {
		var l []api.FurnaceSet
		near := k.Heats[0].Low - 310 + r.Intn(620)
		for range 1 + r.Intn(2) {
			fires := min(max(near+r.Intn(4), 0), api.MaxFurnaceHeat-1)
			l = append(l, set(r.Intn(len(k.Heats)), fires, min(fires+2+r.Intn(12), api.MaxFurnaceHeat)))
		}
		var want []int
		for d := -api.MaxFurnaceTurn; d <= api.MaxFurnaceTurn; d++ {
			bad := func(x []int) bool {
				return slices.ContainsFunc(l, func(s api.FurnaceSet) bool { return how(s.Ware, x[s.Place]+d) != api.FurnaceGood })
			}
			if !slices.ContainsFunc(k.truths, bad) {
				want = append(want, d)
			}
		}
		turn, e := furnace.Turn(k.FurnaceOven, l)
		if len(want) == 0 {
			none++
			if turn != span(0, 0) || e != api.ErrNone {
				t.Error(k.FurnaceOven, l, turn, e)
			}
			continue
		}
		found++
		if turn != span(want[0], want[len(want)-1]) || len(want) != turn.High-turn.Low+1 || e != api.OK {
			t.Error(k.FurnaceOven, l, turn, e, want)
		}
	}
	if found < 80 || none < 40 {
		t.Error("too few turns of a kind:", found, none)
	}
}

// P2.8, P2.14: Wrong against all truths: no more notes are wrong than were, without those of Wrong there is a truth, with any one of them there is none.
func TestWrongInAllTruths(t *testing.T) {
	r := rand.New(rand.NewSource(5))
	var sizes [5]int
	for range 2000 {
		o, truth := someOven(r, 1+r.Intn(3), r.Intn(6))
		if r.Intn(8) == 0 && len(o.Heats) > 1 {
			withPair(0, 1, 0)(&o)
			o.Pairs = o.Pairs[max(0, len(o.Pairs)-api.MaxFurnacePairs):]
		}
		all := places(o)
		var want []int
		ok := false
		for _, drop := range lists(len(o.Cones) + len(o.Signs)) {
			if ok = len(truths(o, all, drop...)) > 0; ok {
				want = drop
				break
			}
		}
		wrong, e := furnace.Wrong(o)
		switch {
		case !ok:
			sizes[4]++
			if len(wrong) != 0 || e != api.ErrState {
				t.Error(o, wrong, e)
			}
			continue
		case len(want) == 0:
			sizes[0]++
			if len(wrong) != 0 || e != api.ErrTwice {
				t.Error(o, wrong, e)
			}
			continue
		}
		sizes[min(len(want), 3)]++
		if !slices.Equal(wrong, want) || e != api.OK {
			t.Error(o, wrong, e, want)
		}
		bad := 0
		for _, is := range notesAgree(o, truth) {
			if !is {
				bad++
			}
		}
		if agrees(o, truth) && len(wrong) > bad {
			t.Error(o, wrong, bad)
		}
		if _, e := furnace.Heats(less(o, wrong...)); e != api.OK {
			t.Error(o, wrong, e)
		}
		for i := range wrong {
			if _, e := furnace.Heats(less(o, slices.Delete(slices.Clone(wrong), i, i+1)...)); e != api.ErrState {
				t.Error(o, wrong, i, e)
			}
		}
	}
	for size, many := range sizes {
		if many < 20 {
			t.Error("too few furnaces of a kind:", size, many)
		}
	}
}

// less returns a furnace without the notes with some numbers.
func less(o api.FurnaceOven, drop ...int) api.FurnaceOven {
	cones, signs := o.Cones, o.Signs
	o.Cones, o.Signs = nil, nil
	for i, c := range cones {
		if !slices.Contains(drop, i) {
			o.Cones = append(o.Cones, c)
		}
	}
	for i, s := range signs {
		if !slices.Contains(drop, len(cones)+i) {
			o.Signs = append(o.Signs, s)
		}
	}
	return o
}

// P2.9, P2.15: Needless against all truths; without a needless note Heats are the same, without any other one they are not.
func TestNeedlessInAllTruths(t *testing.T) {
	needed, free := 0, 0
	for _, k := range someKnown(rand.New(rand.NewSource(6)), 600) {
		var want []int
		heats, _ := furnace.Heats(k.FurnaceOven)
		for i := range len(k.Cones) + len(k.Signs) {
			fewer, e := furnace.Heats(less(k.FurnaceOven, i))
			same := slices.Equal(heatsOver(truths(k.FurnaceOven, k.without, i)), heats)
			if same != slices.Equal(fewer, heats) || e != api.OK {
				t.Error(k.FurnaceOven, i, fewer, e)
			}
			if same {
				want = append(want, i)
			} else {
				needed++
			}
		}
		free += len(want)
		if needless, e := furnace.Needless(k.FurnaceOven); !slices.Equal(needless, want) || e != api.OK {
			t.Error(k.FurnaceOven, needless, e, want)
		}
	}
	if needed < 200 || free < 200 {
		t.Error("too few notes of a kind:", needed, free)
	}
}

// leftBy returns how many degrees are open after the worse answer of a cone.
func (k known) leftBy(place, bends int) int {
	worst := 0
	for _, bent := range []bool{false, true} {
		var after [][]int
		for _, x := range k.truths {
			if (x[place] >= bends) == bent {
				after = append(after, x)
			}
		}
		if len(after) > 0 {
			worst = max(worst, width(heatsOver(after)))
		}
	}
	return worst
}

// P2.10, P2.15: Trial against all cones and all truths. A cone that bends above all heats, or at all of them, tells nothing.
func TestTrialInAllTruths(t *testing.T) {
	tried, none := 0, 0
	for _, k := range someKnown(rand.New(rand.NewSource(7)), 400) {
		now := width(heatsOver(k.truths))
		var want []int
		for p, h := range k.Heats {
			for bends := max(h.Low-1, 1); bends <= min(h.High+2, api.MaxFurnaceHeat); bends++ {
				if left := k.leftBy(p, bends); left < now && (want == nil || left < want[2]) {
					want = list(p, bends, left)
				}
			}
		}
		place, heat, left, e := furnace.Trial(k.FurnaceOven)
		if want == nil {
			none++
			if place != 0 || heat != 0 || left != 0 || e != api.ErrTwice {
				t.Error(k.FurnaceOven, place, heat, left, e)
			}
			continue
		}
		tried++
		if !slices.Equal(list(place, heat, left), want) || e != api.OK {
			t.Error(k.FurnaceOven, place, heat, left, e, want)
		}
		if len(k.Cones) == api.MaxFurnaceCones {
			continue
		}
		for _, bent := range []bool{false, true} {
			after := changed(k.FurnaceOven, withCone(place, heat, bent))
			if heats, e := furnace.Heats(after); e != api.OK || width(heats) > left {
				t.Error(k.FurnaceOven, after, heats, e)
			}
		}
	}
	if tried < 150 || none < 20 {
		t.Error("too few trials of a kind:", tried, none)
	}
}

// covers reports whether a span lies within another one.
func covers(wide, s api.Span) bool { return wide.Low <= s.Low && s.High <= wide.High }

// within reports whether all numbers of a list are in another one.
func within(l, in []int) bool {
	return !slices.ContainsFunc(l, func(n int) bool { return !slices.Contains(in, n) })
}

// wideOven returns a furnace with wide spans, whose pairs all agree with a truth, and that has no notes.
func wideOven(r *rand.Rand) (o api.FurnaceOven, truth []int) {
	for range 1 + r.Intn(api.MaxFurnacePlaces) {
		low := r.Intn(900)
		high := low + r.Intn(api.MaxFurnaceHeat-low+1)
		o.Heats = append(o.Heats, span(low, high))
		truth = append(truth, low+r.Intn(high-low+1))
	}
	for range r.Intn(api.MaxFurnacePairs + 1) {
		a, b := r.Intn(len(truth)), r.Intn(len(truth))
		if a != b {
			withPair(a, b, min(max(truth[a]-truth[b], truth[b]-truth[a])+r.Intn(90), api.MaxFurnaceHeat))(&o)
		}
	}
	return o, truth
}

// anyNote notes something more that agrees with a truth, if there is place for it.
func anyNote(r *rand.Rand, truth []int) change {
	place := r.Intn(len(truth))
	if r.Intn(2) == 0 {
		bends := 1 + r.Intn(api.MaxFurnaceHeat)
		return withCone(place, bends, truth[place] >= bends)
	}
	w := anyWare(r)
	return withSign(place, w.Fires, w.Runs, how(w, truth[place]))
}

func anyWare(r *rand.Rand) api.FurnaceWare {
	fires := r.Intn(api.MaxFurnaceHeat)
	return ware(fires, fires+1+r.Intn(api.MaxFurnaceHeat-fires))
}

// P2.11, P2.12: in a truth the heats lie in Heats, the differences in Apart; with one note more, that is so, no span is wider, and less is possible, more is sure.
func TestOneNoteMore(t *testing.T) {
	r := rand.New(rand.NewSource(8))
	narrower, surer, fewer := 0, 0, 0
	for range 900 {
		o, truth := wideOven(r)
		w := anyWare(r)
		heats, _ := furnace.Heats(o)
		surely, possibly, _ := furnace.Places(o, w)
		aparts := apartsOf(t, o, truth)
		for range api.MaxFurnaceSigns {
			o = changed(o, anyNote(r, truth))
			now, e := furnace.Heats(o)
			sure, perhaps, f := furnace.Places(o, w)
			if e != api.OK || f != api.OK || !within(surely, sure) || !within(perhaps, possibly) {
				t.Fatal(o, truth, e, f, surely, sure, perhaps, possibly)
			}
			for place, h := range now {
				if !covers(heats[place], h) || !covers(h, span(truth[place], truth[place])) {
					t.Error(o, truth, heats, now)
				}
				if h != heats[place] {
					narrower++
				}
			}
			next := apartsOf(t, o, truth)
			for i, apart := range next {
				if !covers(aparts[i], apart) {
					t.Error(o, i, aparts, next)
				}
			}
			surer += len(sure) - len(surely)
			fewer += len(possibly) - len(perhaps)
			heats, surely, possibly, aparts = now, sure, perhaps, next
		}
	}
	if narrower < 500 || surer < 50 || fewer < 50 {
		t.Error("too few notes that tell something:", narrower, surer, fewer)
	}
}

// apartsOf returns Apart of each two places, and fails if a truth is not in it.
func apartsOf(t *testing.T, o api.FurnaceOven, truth []int) []api.Span {
	t.Helper()
	var out []api.Span
	for a := range truth {
		for b := range truth {
			apart, e := furnace.Apart(o, a, b)
			if d := truth[a] - truth[b]; e != api.OK || !covers(apart, span(d, d)) {
				t.Error(o, truth, a, b, apart, e)
			}
			out = append(out, apart)
		}
	}
	return out
}

// P2.13, P2.15: with wide spans no ware of Fill is spoiled in a truth, or at one of Turn's degrees; no cone that is tried leaves fewer degrees than that of Trial.
func TestWideOvens(t *testing.T) {
	r := rand.New(rand.NewSource(9))
	put, turned := 0, 0
	for range 200 {
		o, truth := wideOven(r)
		for range 3 {
			o = changed(o, anyNote(r, truth))
		}
		l := wares(ware(0, 1000), anyWare(r), anyWare(r), ware(r.Intn(300), 700+r.Intn(300)))
		fill, e := furnace.Fill(o, l)
		if len(fill) != len(l) || e != api.OK {
			t.Fatal(o, l, fill, e)
		}
		for i, place := range fill {
			if place >= 0 {
				put++
				if how(l[i], truth[place]) != api.FurnaceGood {
					t.Error(o, truth, l, fill)
				}
			}
		}
		s := set(r.Intn(len(truth)), l[3].Fires, l[3].Runs)
		turn, e := furnace.Turn(o, sets(s))
		for _, d := range list(turn.Low, turn.High) {
			if e == api.OK && how(s.Ware, truth[s.Place]+d) != api.FurnaceGood {
				t.Error(o, truth, s, turn)
			}
		}
		if e == api.OK {
			turned++
		}
		noBetterCone(t, r, o)
	}
	if put < 100 || turned < 50 {
		t.Error("too few wares that are put right:", put, turned)
	}
}

// noBetterCone fails if some cones that are tried leave fewer degrees than that of Trial, or if that leaves others than it says.
func noBetterCone(t *testing.T, r *rand.Rand, o api.FurnaceOven) {
	t.Helper()
	worst := func(place, bends int) int {
		out := 0
		for _, bent := range []bool{false, true} {
			if heats, e := furnace.Heats(changed(o, withCone(place, bends, bent))); e == api.OK {
				out = max(out, width(heats))
			}
		}
		return out
	}
	place, heat, left, e := furnace.Trial(o)
	if e == api.ErrTwice {
		return
	}
	if e != api.OK || worst(place, heat) != left {
		t.Error(o, place, heat, left, e)
	}
	for range 30 {
		if p, bends := r.Intn(len(o.Heats)), 1+r.Intn(api.MaxFurnaceHeat); worst(p, bends) < left {
			t.Error(o, place, heat, left, p, bends)
		}
	}
}
