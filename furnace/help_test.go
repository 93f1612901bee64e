package furnace_test

import (
	"math/rand"
	"slices"

	"smalto/api"
	"smalto/furnace"
)

// span, spans, list, ware, sets, cone and sign keep the tables of tests short.
func span(low, high int) api.Span { return api.Span{Low: low, High: high} }

func spans(l ...api.Span) []api.Span { return l }

func list(l ...int) []int { return l }

func ware(fires, runs int) api.FurnaceWare { return api.FurnaceWare{Fires: fires, Runs: runs} }

func wares(l ...api.FurnaceWare) []api.FurnaceWare { return l }

func set(place, fires, runs int) api.FurnaceSet {
	return api.FurnaceSet{Place: place, Ware: ware(fires, runs)}
}

func sets(l ...api.FurnaceSet) []api.FurnaceSet { return l }

func pair(a, b, most int) api.FurnacePair { return api.FurnacePair{A: a, B: b, Most: most} }

func cone(place, bends int, bent bool) api.FurnaceCone {
	return api.FurnaceCone{Place: place, Bends: bends, Bent: bent}
}

func sign(place, fires, runs int, how api.FurnaceHow) api.FurnaceSign {
	return api.FurnaceSign{Place: place, Ware: ware(fires, runs), How: how}
}

// change is what is otherwise in an oven.
type change func(o *api.FurnaceOven)

// oven returns the furnace of the chapter's examples, after some changes.
func oven(changes ...change) api.FurnaceOven {
	o := api.FurnaceOven{
		Heats: spans(span(700, 800), span(720, 820), span(650, 900)),
		Pairs: []api.FurnacePair{pair(0, 1, 30), pair(1, 2, 20)},
		Cones: []api.FurnaceCone{cone(0, 760, true), cone(2, 790, false)},
		Signs: []api.FurnaceSign{sign(1, 700, 800, api.FurnaceGood)},
	}
	return changed(o, changes...)
}

// bare returns a furnace of which nothing is noted, after some changes.
func bare(heats []api.Span, changes ...change) api.FurnaceOven {
	return changed(api.FurnaceOven{Heats: heats}, changes...)
}

func changed(o api.FurnaceOven, changes ...change) api.FurnaceOven {
	for _, c := range changes {
		c(&o)
	}
	return o
}

func withPair(a, b, most int) change {
	return func(o *api.FurnaceOven) { o.Pairs = append(slices.Clone(o.Pairs), pair(a, b, most)) }
}

func withCone(place, bends int, bent bool) change {
	return func(o *api.FurnaceOven) { o.Cones = append(slices.Clone(o.Cones), cone(place, bends, bent)) }
}

func withSign(place, fires, runs int, how api.FurnaceHow) change {
	return func(o *api.FurnaceOven) { o.Signs = append(slices.Clone(o.Signs), sign(place, fires, runs, how)) }
}

// dead leaves no truth, whatever is noted, and lied none because of two notes.
var (
	dead = func(o *api.FurnaceOven) {
		o.Heats, o.Pairs = spans(span(0, 1), span(900, 950), span(0, 0)), []api.FurnacePair{pair(1, 0, 5)}
	}
	lied = func(o *api.FurnaceOven) { o.Cones = []api.FurnaceCone{cone(0, 760, true), cone(0, 760, false)} }
)

// agrees judges a truth by the spans and pairs of a furnace, as the chapter's section "Types" says.
func agrees(o api.FurnaceOven, x []int) bool {
	for i, h := range o.Heats {
		if x[i] < h.Low || x[i] > h.High {
			return false
		}
	}
	for _, p := range o.Pairs {
		if max(x[p.A]-x[p.B], x[p.B]-x[p.A]) > p.Most {
			return false
		}
	}
	return true
}

// notesAgree tells of each note, in their order, whether it is as in a truth.
func notesAgree(o api.FurnaceOven, x []int) []bool {
	var out []bool
	for _, c := range o.Cones {
		out = append(out, (x[c.Place] >= c.Bends) == c.Bent)
	}
	for _, s := range o.Signs {
		out = append(out, how(s.Ware, x[s.Place]) == s.How)
	}
	return out
}

// how tells how a ware comes out at a heat.
func how(w api.FurnaceWare, heat int) api.FurnaceHow {
	switch {
	case heat < w.Fires:
		return api.FurnaceDull
	case heat < w.Runs:
		return api.FurnaceGood
	}
	return api.FurnaceRan
}

// places returns all heats of the places of a furnace with short spans, notes left out.
func places(o api.FurnaceOven) [][]int {
	all := [][]int{nil}
	for _, h := range o.Heats {
		var next [][]int
		for _, x := range all {
			for heat := h.Low; heat <= h.High; heat++ {
				next = append(next, slices.Concat(x, list(heat)))
			}
		}
		all = next
	}
	return slices.DeleteFunc(all, func(x []int) bool { return !agrees(o, x) })
}

// truths returns those of some heats with which all notes agree but those with some numbers.
func truths(o api.FurnaceOven, all [][]int, drop ...int) [][]int {
	var out [][]int
	for _, x := range all {
		ok := true
		for i, is := range notesAgree(o, x) {
			ok = ok && (is || slices.Contains(drop, i))
		}
		if ok {
			out = append(out, x)
		}
	}
	return out
}

// over returns the least and the greatest number over all truths.
func over(all [][]int, of func(x []int) int) api.Span {
	out := span(of(all[0]), of(all[0]))
	for _, x := range all {
		out = span(min(out.Low, of(x)), max(out.High, of(x)))
	}
	return out
}

// heatsOver returns the heats of all places over all truths.
func heatsOver(all [][]int) []api.Span {
	var out []api.Span
	for place := range all[0] {
		out = append(out, over(all, func(x []int) int { return x[place] }))
	}
	return out
}

// width adds up how wide some spans are.
func width(l []api.Span) int {
	sum := 0
	for _, s := range l {
		sum += s.High - s.Low
	}
	return sum
}

// lists returns all lists of numbers below n, ascending, the shortest ones first, and those as long from the smallest one on.
func lists(n int) [][]int {
	var out [][]int
	for bits := range 1 << n {
		var l []int
		for i := range n {
			if bits>>i&1 == 1 {
				l = append(l, i)
			}
		}
		out = append(out, l)
	}
	slices.SortFunc(out, func(a, b []int) int {
		if len(a) != len(b) {
			return len(a) - len(b)
		}
		return slices.Compare(a, b)
	})
	return out
}

// someWare returns a ware that fires and runs about as hot as places are.
func someWare(r *rand.Rand, near int) api.FurnaceWare {
	fires := min(max(near-3+r.Intn(8), 0), api.MaxFurnaceHeat-1)
	return ware(fires, min(fires+1+r.Intn(6), api.MaxFurnaceHeat))
}

// someOven returns a furnace with short spans close to each other, at the least, the greatest, or any heats. Its notes agree with a truth but for so many.
func someOven(r *rand.Rand, wide, lies int) (o api.FurnaceOven, truth []int) {
	near := []int{0, 5 + r.Intn(900), api.MaxFurnaceHeat + 1 - 2*wide}[r.Intn(3)]
	for range 1 + r.Intn(api.MaxFurnacePlaces) {
		low := near + r.Intn(wide)
		o.Heats = append(o.Heats, span(low, low+r.Intn(wide+1)))
		truth = append(truth, low+r.Intn(o.Heats[len(o.Heats)-1].High-low+1))
	}
	many := len(o.Heats)
	for range r.Intn(api.MaxFurnacePairs + 1) {
		a, b := r.Intn(many), r.Intn(many)
		if a != b {
			o.Pairs = append(o.Pairs, pair(a, b, min(max(truth[a]-truth[b], truth[b]-truth[a])+r.Intn(3), api.MaxFurnaceHeat)))
		}
	}
	for range r.Intn(api.MaxFurnaceCones + 1) {
		place, bends := r.Intn(many), min(max(near+r.Intn(2*wide), 1), api.MaxFurnaceHeat)
		bent := truth[place] >= bends
		if lies > 0 && r.Intn(2) == 0 {
			bent = !bent
			lies--
		}
		o.Cones = append(o.Cones, cone(place, bends, bent))
	}
	for range r.Intn(api.MaxFurnaceSigns + 1) {
		place, w := r.Intn(many), someWare(r, near)
		came := how(w, truth[place])
		if lies > 0 && r.Intn(2) == 0 {
			came = api.FurnaceDull + (came-api.FurnaceDull+1+api.FurnaceHow(r.Intn(2)))%3
			lies--
		}
		o.Signs = append(o.Signs, api.FurnaceSign{Place: place, Ware: w, How: came})
	}
	return o, truth
}

// arguments are all that the functions are given.
type arguments struct {
	o    api.FurnaceOven
	a, b int
	w    api.FurnaceWare
	l    []api.FurnaceWare
	sets []api.FurnaceSet
}

// The places of the errors that are returned by all functions.
const (
	ofCheck = iota
	ofHeats
	ofApart
	ofPlaces
	ofHottest
	ofFill
	ofTurn
	ofWrong
	ofNeedless
	ofTrial
	functions
)

// all calls every function, and returns each one's error, and all their results.
func (a arguments) all() (errs [functions]api.Errno, results []any) {
	var e [functions]api.Errno
	e[ofCheck] = furnace.Check(a.o)
	heats, e1 := furnace.Heats(a.o)
	apart, e2 := furnace.Apart(a.o, a.a, a.b)
	surely, possibly, e3 := furnace.Places(a.o, a.w)
	hottest, perhaps, e4 := furnace.Hottest(a.o)
	filled, e5 := furnace.Fill(a.o, a.l)
	turn, e6 := furnace.Turn(a.o, a.sets)
	wrong, e7 := furnace.Wrong(a.o)
	needless, e8 := furnace.Needless(a.o)
	place, heat, left, e9 := furnace.Trial(a.o)
	copy(e[ofHeats:], []api.Errno{e1, e2, e3, e4, e5, e6, e7, e8, e9})
	return e, []any{heats, apart, surely, possibly, hottest, perhaps, filled, turn, wrong, needless, place, heat, left}
}

// zeroWith reports whether each function that returns an error returns nothing else.
func zeroWith(errs [functions]api.Errno, results []any) bool {
	of := list(ofHeats, ofApart, ofPlaces, ofPlaces, ofHottest, ofHottest, ofFill, ofTurn, ofWrong, ofNeedless, ofTrial, ofTrial, ofTrial)
	for i, x := range results {
		if errs[of[i]] != api.OK && !isZero(x) {
			return false
		}
	}
	return true
}

func isZero(x any) bool {
	switch v := x.(type) {
	case int:
		return v == 0
	case []int:
		return len(v) == 0
	case []api.Span:
		return len(v) == 0
	case api.Span:
		return v == api.Span{}
	}
	return false
}
