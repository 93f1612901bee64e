package fork_test

import (
	"math/rand"
	"slices"

	"smalto/api"
	"smalto/fork"
)

// span, list, bars and sign keep the tables of tests short.
func span(low, high int) api.Span { return api.Span{Low: low, High: high} }

func list(l ...int) []int { return l }

func bars(many, length, gap, load, near int) api.ForkRules {
	return api.ForkRules{Bars: many, Length: length, Gap: gap, Load: load, Near: near}
}

func sign(long, high int, weight, heat api.Span) api.ForkSign {
	return api.ForkSign{Long: long, High: high, Weight: weight, Heat: heat}
}

// long, high, heavy and hot return signs that differ in one thing alone.
func long(l ...int) (out []api.ForkSign) {
	for _, n := range l {
		out = append(out, sign(n, 10, span(1, 1), span(0, 1000)))
	}
	return out
}

func high(l ...int) (out []api.ForkSign) {
	for _, n := range l {
		out = append(out, sign(1, n, span(1, 1), span(0, 1000)))
	}
	return out
}

func heavy(l ...api.Span) (out []api.ForkSign) {
	for _, s := range l {
		out = append(out, sign(1, 10, s, span(0, 1000)))
	}
	return out
}

func hot(l ...api.Span) (out []api.ForkSign) {
	for _, s := range l {
		out = append(out, sign(1, 10, span(1, 1), s))
	}
	return out
}

// given is a fork with signs.
type given struct {
	r api.ForkRules
	l []api.ForkSign
}

// change is what is otherwise in a fork, or its signs.
type change func(g *given)

// example returns the fork and the signs of the chapter's examples, after some changes.
func example(changes ...change) given {
	g := given{bars(2, 40, 2, 100, 10), []api.ForkSign{
		sign(18, 12, span(20, 22), span(800, 850)),
		sign(20, 14, span(25, 25), span(820, 860)),
		sign(20, 20, span(30, 34), span(800, 830)),
		sign(38, 12, span(40, 40), span(840, 880)),
		sign(10, 30, span(10, 12), span(800, 900)),
	}}
	for _, c := range changes {
		c(&g)
	}
	return g
}

// carries changes what the fork carries, and third changes the sign 2.
func carries(load int) change { return func(g *given) { g.r.Load = load } }

func third(s api.ForkSign) change { return func(g *given) { g.l[2] = s } }

// dear returns the signs of the fifth example.
func dear() given {
	g := example(third(sign(20, 12, span(30, 30), span(870, 880))))
	g.l = g.l[:3]
	return g
}

// roomy returns a fork on which all goes that is not too long, too high, too heavy or too hot by itself.
func roomy() api.ForkRules { return bars(3, 200, 0, 2000, 100) }

// lists returns all lists of numbers below n, ascending, the shortest ones first, and those as long from the smallest one on.
func lists(n int) [][]int {
	var out [][]int
	for bits := range 1 << n {
		out = append(out, numbers(bits))
	}
	slices.SortFunc(out, func(a, b []int) int {
		if len(a) != len(b) {
			return len(a) - len(b)
		}
		return slices.Compare(a, b)
	})
	return out
}

// numbers and bitsOf turn the bits of an integer into a list of numbers, and back.
func numbers(bits int) []int {
	var out []int
	for i := range api.MaxForkSigns {
		if bits>>i&1 == 1 {
			out = append(out, i)
		}
	}
	return out
}

func bitsOf(load []int) int {
	bits := 0
	for _, i := range load {
		bits |= 1 << i
	}
	return bits
}

// all yields each list of so many numbers below n, from the smallest one on; it is written over by the next one.
func all(many, n int, yield func(l []int)) {
	l := make([]int, many)
	var from func(i int)
	from = func(i int) {
		if i == many {
			yield(l)
			return
		}
		for l[i] = 0; l[i] < n; l[i]++ {
			from(i + 1)
		}
	}
	from(0)
}

// lie reports whether signs lie on their bars, as the chapter's section "Types" says.
func (g given) lie(load, on []int) bool {
	for bar := range g.r.Bars {
		sum, many := 0, 0
		for i, s := range load {
			if on[i] == bar {
				sum += g.l[s].Long
				many++
			}
		}
		if many > 0 && sum+(many-1)*g.r.Gap > g.r.Length {
			return false
		}
	}
	return true
}

// bars returns the smallest list of bars on which a load lies, by trying all of them.
func (g given) bars(load []int) (best []int, ok bool) {
	all(len(load), g.r.Bars, func(on []int) {
		if !ok && g.lie(load, on) {
			best, ok = slices.Clone(on), true
		}
	})
	return best, ok
}

// heats returns the heats at which a load can be fired, by trying all of them.
func (g given) heats(load []int) (out []int) {
	for heat := range api.MaxForkHeat + 1 {
		if !slices.ContainsFunc(load, func(s int) bool { return heat < g.l[s].Heat.Low || heat > g.l[s].Heat.High }) {
			out = append(out, heat)
		}
	}
	return out
}

// near reports whether no two signs of a load differ too much in height.
func (g given) near(load []int) bool {
	for _, a := range load {
		for _, b := range load {
			if max(g.l[a].High-g.l[b].High, g.l[b].High-g.l[a].High) > g.r.Near {
				return false
			}
		}
	}
	return true
}

// weights returns what a load weighs, in each of all truths.
func (g given) weights(load []int) []int {
	sums := list(0)
	for _, s := range load {
		var next []int
		for _, sum := range sums {
			for w := g.l[s].Weight.Low; w <= g.l[s].Weight.High; w++ {
				next = append(next, sum+w)
			}
		}
		sums = next
	}
	return sums
}

// goes judges a load in all truths.
func (g given) goes(load []int) (surely, possibly bool) {
	_, lies := g.bars(load)
	if !lies || !g.near(load) || len(g.heats(load)) == 0 {
		return false, false
	}
	weights := g.weights(load)
	return slices.Max(weights) <= g.r.Load, slices.Min(weights) <= g.r.Load
}

// known is a fork with signs, and of all loads, by their bits, whether they go.
type known struct {
	given
	surely, possibly [1 << api.MaxForkSigns]bool
}

func know(g given) known {
	k := known{given: g}
	for bits := range 1 << len(g.l) {
		k.surely[bits], k.possibly[bits] = g.goes(numbers(bits))
	}
	return k
}

// fired reports whether all signs are fired in loads.
func (k known) fired(loads []int) bool {
	var bits [api.MaxForkSigns]int
	for s, number := range loads {
		bits[number] |= 1 << s
	}
	return !slices.ContainsFunc(bits[:], func(b int) bool { return !k.surely[b] })
}

// few returns in how many loads the signs with some bits can be fired: one of these is that of the first sign, and so on; -1 if they cannot.
func (k known) few(bits int) int {
	best := -1
	if bits == 0 {
		return 0
	}
	first := bits & -bits
	for rest := bits; rest > 0; rest = (rest - 1) & bits {
		if rest&first == 0 || !k.surely[rest] {
			continue
		}
		if more := k.few(bits &^ rest); more >= 0 && (best < 0 || more+1 < best) {
			best = more + 1
		}
	}
	return best
}

// someGiven returns a fork and signs, of which some go together and some do not.
func someGiven(r *rand.Rand) given {
	g := given{r: bars(1+r.Intn(api.MaxForkBars), 10+r.Intn(30), r.Intn(5), 20+r.Intn(50), r.Intn(12))}
	at := []int{0, r.Intn(900), api.MaxForkHeat - 30}[r.Intn(3)]
	for range r.Intn(api.MaxForkSigns + 1) {
		weight, heat := 8+r.Intn(14), at+r.Intn(15)
		g.l = append(g.l, sign(1+r.Intn(12), 20+r.Intn(10), span(weight, weight+r.Intn(5)), span(heat, heat+5+r.Intn(10))))
	}
	if many := len(g.l); many > 0 && r.Intn(10) == 0 {
		g.l[r.Intn(many)].Long = g.r.Length + r.Intn(2)
	}
	return g
}

// arguments are all that the functions are given.
type arguments struct {
	given
	load, loads []int
}

// The places of the errors that are returned by all functions.
const (
	ofCheck = iota
	ofGoes
	ofBars
	ofHeat
	ofStill
	ofBar
	ofLoads
	ofApart
	ofDear
	ofPut
	functions
)

// all calls every function, and returns each one's error, and all their results.
func (a arguments) all() (errs [functions]api.Errno, results []any) {
	var e [functions]api.Errno
	e[ofCheck] = fork.Check(a.r, a.l)
	surely, possibly, e1 := fork.Goes(a.r, a.l, a.load)
	on, e2 := fork.Bars(a.r, a.l, a.load)
	heat, e3 := fork.Heat(a.r, a.l, a.load)
	still, e4 := fork.Still(a.r, a.l, a.load)
	bar, e5 := fork.Bar(a.r, a.l, a.load)
	loads, e6 := fork.Loads(a.r, a.l)
	apart, e7 := fork.Apart(a.r, a.l)
	dear, e8 := fork.Dear(a.r, a.l)
	to, moved, e9 := fork.Put(a.r, a.l, a.loads)
	copy(e[ofGoes:], []api.Errno{e1, e2, e3, e4, e5, e6, e7, e8, e9})
	return e, []any{surely, possibly, on, heat, still, bar, loads, apart, dear, to, moved}
}

// zeroWith reports whether each function that returns an error returns nothing else.
func zeroWith(errs [functions]api.Errno, results []any) bool {
	of := list(ofGoes, ofGoes, ofBars, ofHeat, ofStill, ofBar, ofLoads, ofApart, ofDear, ofPut, ofPut)
	for i, x := range results {
		if errs[of[i]] != api.OK && !isZero(x) {
			return false
		}
	}
	return true
}

func isZero(x any) bool {
	switch v := x.(type) {
	case bool:
		return !v
	case int:
		return v == 0
	case []int:
		return len(v) == 0
	case api.Span:
		return v == api.Span{}
	}
	return false
}
