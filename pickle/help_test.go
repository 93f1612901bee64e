package pickle_test

import (
	"math/rand"
	"slices"

	"smalto/api"
	"smalto/pickle"
)

// list, span, spans, plate, bath, step, steps, seen, sights, acid, acids and ways keep the tables of tests short.
func list(l ...int) []int { return l }

func span(low, high int) api.Span { return api.Span{Low: low, High: high} }

func spans(l ...api.Span) []api.Span { return l }

func plate(low, high, takes, thin int) api.PicklePlate {
	return api.PicklePlate{Rust: span(low, high), Takes: takes, Thin: thin}
}

func bath(low, high int, l ...api.PicklePlate) api.PickleBath {
	return api.PickleBath{Strength: span(low, high), Plates: l}
}

func step(plate, hours int) api.PickleStep { return api.PickleStep{Plate: plate, Hours: hours} }

func steps(l ...api.PickleStep) []api.PickleStep { return l }

func seen(plate, hours int, how api.PickleHow) api.PickleSeen {
	return api.PickleSeen{Step: step(plate, hours), How: how}
}

func sights(l ...api.PickleSeen) []api.PickleSeen { return l }

func acid(ounces, low, high int) api.PickleAcid {
	return api.PickleAcid{Strength: span(low, high), Ounces: ounces}
}

func acids(l ...api.PickleAcid) []api.PickleAcid { return l }

func ways(l ...api.PickleHow) []api.PickleHow { return l }

const (
	dirty = api.PickleDirty
	good  = api.PickleGood
	eaten = api.PickleEaten
)

// example is the bath of the chapter's examples.
func example() api.PickleBath {
	return bath(10, 12, plate(40, 44, 1, 30), plate(50, 60, 2, 40), plate(20, 22, 1, 16))
}

// hungry is the example's bath, in which the plates 0 and 1 take 8 each.
func hungry() api.PickleBath {
	b := example()
	b.Plates[0].Takes, b.Plates[1].Takes = 8, 8
	return b
}

// comes returns how a plate comes out, as the chapter says it.
func comes(p api.PicklePlate, rust, strength, hours int) api.PickleHow {
	lost := strength * hours
	if lost < rust {
		return dirty
	}
	if lost > rust+p.Thin {
		return eaten
	}
	return good
}

// before returns the strength before each plate of an order, and after the last one, of acid that was filled in with some strength.
func before(b api.PickleBath, strength int, order []int) []int {
	out := list(strength)
	for _, n := range order {
		strength -= b.Plates[n].Takes
		if strength < 0 {
			strength = 0
		}
		out = append(out, strength)
	}
	return out
}

// truths yields each truth of a bath: a strength, and the rust of all plates; these are written over by the next one.
func truths(b api.PickleBath, yield func(strength int, rusts []int)) {
	rusts := make([]int, len(b.Plates))
	var from func(strength, n int)
	from = func(strength, n int) {
		if n == len(rusts) {
			yield(strength, rusts)
			return
		}
		for rust := b.Plates[n].Rust.Low; rust <= b.Plates[n].Rust.High; rust++ {
			rusts[n] = rust
			from(strength, n+1)
		}
	}
	for strength := b.Strength.Low; strength <= b.Strength.High; strength++ {
		from(strength, 0)
	}
}

// outs returns how the plates of steps come out in a truth.
func outs(b api.PickleBath, strength int, rusts []int, l []api.PickleStep) []api.PickleHow {
	var out []api.PickleHow
	at := before(b, strength, plates(l))
	for i, s := range l {
		out = append(out, comes(b.Plates[s.Plate], rusts[s.Plate], at[i], s.Hours))
	}
	return out
}

// plates returns the plates of steps.
func plates(l []api.PickleStep) []int {
	var out []int
	for _, s := range l {
		out = append(out, s.Plate)
	}
	return out
}

// stepsOf returns the steps of what was seen.
func stepsOf(l []api.PickleSeen) []api.PickleStep {
	var out []api.PickleStep
	for _, s := range l {
		out = append(out, s.Step)
	}
	return out
}

// well returns the hours for which a plate comes out good after some others, in all truths.
func well(b api.PickleBath, others []int, n int) []int {
	var out []int
	p := b.Plates[n]
	for hours := 1; hours <= 24; hours++ {
		ok := true
		for strength := b.Strength.Low; strength <= b.Strength.High; strength++ {
			at := before(b, strength, others)[len(others)]
			for rust := p.Rust.Low; rust <= p.Rust.High; rust++ {
				ok = ok && comes(p, rust, at, hours) == good
			}
		}
		if ok {
			out = append(out, hours)
		}
	}
	return out
}

// permute yields each order of some numbers, which ascend, from the smallest one on.
func permute(l []int, yield func(order []int)) {
	var from func(begin []int)
	from = func(begin []int) {
		if len(begin) == len(l) {
			yield(begin)
			return
		}
		for _, n := range l {
			if !slices.Contains(begin, n) {
				from(append(slices.Clone(begin), n))
			}
		}
	}
	from(nil)
}

// pickled returns the steps with the fewest hours by which some plates come out good in all truths, and whether there are any, by trying all orders.
func pickled(b api.PickleBath, l []int) (best []api.PickleStep, ok bool) {
	permute(l, func(order []int) {
		var these []api.PickleStep
		for i, n := range order {
			hours := well(b, order[:i], n)
			if len(hours) == 0 {
				return
			}
			these = append(these, step(n, hours[0]))
		}
		if !ok || hoursOf(these) < hoursOf(best) {
			best, ok = these, true
		}
	})
	return best, ok
}

// hoursOf returns how many hours steps are together.
func hoursOf(l []api.PickleStep) int {
	all := 0
	for _, s := range l {
		all += s.Hours
	}
	return all
}

// lists yields each list of so many numbers from 0 to high, from the smallest one on; it is written over by the next one.
func lists(many, high int, yield func(l []int)) {
	l := make([]int, many)
	var from func(i int)
	from = func(i int) {
		if i == many {
			yield(l)
			return
		}
		for l[i] = 0; l[i] <= high; l[i]++ {
			from(i + 1)
		}
	}
	from(0)
}

// sets yields each set of so many numbers, ascending.
func sets(many int, yield func(set []int)) {
	for bits := range 1 << many {
		var set []int
		for n := range many {
			if bits>>n&1 == 1 {
				set = append(set, n)
			}
		}
		yield(set)
	}
}

// wider returns a span that is as much wider as it must be to hold a number; first is whether it held none before.
func wider(s api.Span, n int, first bool) api.Span {
	if first {
		return span(n, n)
	}
	return span(min(s.Low, n), max(s.High, n))
}

// holds reports whether a number is in a span.
func holds(s api.Span, n int) bool { return s.Low <= n && n <= s.High }

// inside reports whether a span lies within another one.
func inside(s, in api.Span) bool { return in.Low <= s.Low && s.High <= in.High }

// some returns a number from low to high.
func some(r *rand.Rand, low, high int) int { return low + r.Intn(high-low+1) }

// someSpan returns a span from low to high with at most so many numbers.
func someSpan(r *rand.Rand, low, high, many int) api.Span {
	from := some(r, low, high)
	return span(from, min(high, from+some(r, 0, many-1)))
}

// someBath returns a bath with at most so many plates, whose spans have at most so many numbers.
func someBath(r *rand.Rand, strength, rust, most, many int) api.PickleBath {
	b := api.PickleBath{Strength: someSpan(r, 1, strength, many)}
	takes := some(r, 0, api.MaxPickleTakes)
	for range some(r, 0, most) {
		p := plate(0, 0, some(r, 0, takes), some(r, 0, some(r, 0, rust)))
		p.Rust = someSpan(r, 0, rust, many)
		b.Plates = append(b.Plates, p)
	}
	return b
}

// someOrder returns some plates of a bath, at most so many, in some order.
func someOrder(r *rand.Rand, b api.PickleBath, most int) []int {
	return r.Perm(len(b.Plates))[:some(r, 0, min(most, len(b.Plates)))]
}

// someSteps returns steps of at most so many plates of a bath, of at most so many hours.
func someSteps(r *rand.Rand, b api.PickleBath, most, hours int) []api.PickleStep {
	var out []api.PickleStep
	for _, n := range someOrder(r, b, most) {
		out = append(out, step(n, some(r, 1, hours)))
	}
	return out
}

// someSights returns what could be seen of steps, of which so many, if there are as many, came out in some other way.
func someSights(r *rand.Rand, b api.PickleBath, l []api.PickleStep, lies int) []api.PickleSeen {
	var rusts []int
	for _, p := range b.Plates {
		rusts = append(rusts, some(r, p.Rust.Low, p.Rust.High))
	}
	var out []api.PickleSeen
	for i, how := range outs(b, some(r, b.Strength.Low, b.Strength.High), rusts, l) {
		out = append(out, api.PickleSeen{Step: l[i], How: how})
	}
	for _, n := range r.Perm(len(out))[:min(lies, len(out))] {
		out[n].How = 1 + (out[n].How+api.PickleHow(r.Intn(2)))%3
	}
	return out
}

// someAcids returns at most so many acids.
func someAcids(r *rand.Rand, most, ounces, many int) []api.PickleAcid {
	var out []api.PickleAcid
	for range some(r, 1, most) {
		a := acid(some(r, 1, ounces), 0, 0)
		a.Strength = someSpan(r, 0, api.MaxPickleStrength, many)
		out = append(out, a)
	}
	return out
}

// arguments are all that the functions are given.
type arguments struct {
	b          api.PickleBath
	order      []int
	steps      []api.PickleStep
	plate      int
	seen, lied []api.PickleSeen
	acids      []api.PickleAcid
	want       api.Span
	full, left api.Span
	used       []api.Span
}

// The places of the errors that are returned by all functions.
const (
	ofCheck = iota
	ofStrengths
	ofOut
	ofHours
	ofOrder
	ofFillings
	ofMix
	ofWater
	ofWas
	ofWrong
	ofMissing
	functions
)

// all calls every function, and returns each one's error, and all their results.
func (a arguments) all() (errs [functions]api.Errno, results []any) {
	var e [functions]api.Errno
	e[ofCheck] = pickle.Check(a.b)
	strengths, e1 := pickle.Strengths(a.b, a.order)
	out, e2 := pickle.Out(a.b, a.steps)
	hours, e3 := pickle.Hours(a.b, a.steps, a.plate)
	order, e4 := pickle.Order(a.b)
	fillings, e5 := pickle.Fillings(a.b)
	mix, e6 := pickle.Mix(a.acids)
	water, e7 := pickle.Water(a.acids, a.want)
	strength, rusts, e8 := pickle.Was(a.b, a.seen)
	wrong, e9 := pickle.Wrong(a.b, a.lied)
	missing, e10 := pickle.Missing(a.full, a.used, a.left)
	copy(e[ofStrengths:], []api.Errno{e1, e2, e3, e4, e5, e6, e7, e8, e9, e10})
	return e, []any{strengths, out, hours, order, fillings, mix, water, strength, rusts, wrong, missing}
}

// zeroWith reports whether each function that returns an error returns nothing else.
func zeroWith(errs [functions]api.Errno, results []any) bool {
	of := list(ofStrengths, ofOut, ofHours, ofOrder, ofFillings, ofMix, ofWater, ofWas, ofWas, ofWrong, ofMissing)
	for i, x := range results {
		if errs[of[i]] != api.OK && !isZero(x) {
			return false
		}
	}
	return true
}

func isZero(x any) bool {
	switch v := x.(type) {
	case api.Span:
		return v == api.Span{}
	case []int:
		return len(v) == 0
	case []api.Span:
		return len(v) == 0
	case []api.PickleStep:
		return len(v) == 0
	case [][]api.PickleHow:
		return len(v) == 0
	}
	return false
}

// fine returns arguments with which no function returns an error, and each returns something.
func fine() arguments {
	return arguments{
		b: example(), order: list(0, 1), steps: steps(step(0, 4), step(1, 7)), plate: 2,
		seen: sights(seen(0, 4, dirty)), lied: sights(seen(0, 24, good), seen(2, 3, good)),
		acids: acids(acid(10, 30, 30)), want: span(10, 12),
		full: span(100, 100), used: spans(span(20, 25), span(30, 30)), left: span(40, 44),
	}
}
