package stencil

// found is a heap of stencils that was found, and the cases of which they can be, with at most so many that are lost.
type found struct {
	alphabet
	cases [][]int
	heap  []int
	lost  int
}

// owners yields all lists of cases of which the heap can be, from the smallest one on.
func (f found) owners(yield func(cases []int) bool) {
	for l := range lists(nil, 0, len(f.cases)) {
		if f.isOf(l...) && !yield(l) {
			return
		}
	}
}

// isOf reports whether the heap can be of just these cases.
func (f found) isOf(cases ...int) bool {
	lost := 0
	for letter := range f.Letters {
		missing := -f.heap[letter]
		for _, n := range cases {
			missing += f.cases[n][letter]
		}
		if missing < 0 {
			return false
		}
		lost += missing
	}
	return lost <= f.lost
}

// mixed returns the cases that are in all lists of owners, and those that are in one or more.
func (f found) mixed() (surely, possibly []int) {
	many, in := 0, make([]int, len(f.cases))
	for l := range f.owners {
		many++
		for _, n := range l {
			in[n]++
		}
	}
	return those(in, func(lists int) bool { return lists == many }), those(in, func(lists int) bool { return lists > 0 })
}
