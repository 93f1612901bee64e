package furnace

import (
	"iter"
	"slices"

	"smalto/api"
)

// nowhere is the place of a ware that is not put into the furnace.
const nowhere = -1

// fill returns places for the most wares that can surely come out good, of several lists the smallest one.
func (t told) fill(l []api.FurnaceWare) []int {
	var choices [][]int
	for _, w := range l {
		choices = append(choices, slices.Concat([]int{nowhere}, t.surelyGood(w)))
	}
	var best []int
	most := -1
	for list := range fillings(nil, choices) {
		if many := countPut(list); many > most {
			best, most = list, many
		}
	}
	return best
}

// fillings yields the lists that begin so, and go on with one of the choices for each other ware, no place twice: from the smallest one on if all choices ascend.
func fillings(begin []int, choices [][]int) iter.Seq[[]int] {
	return func(yield func([]int) bool) {
		if len(begin) == len(choices) {
			yield(begin)
			return
		}
		for _, place := range choices[len(begin)] {
			if place != nowhere && slices.Contains(begin, place) {
				continue
			}
			for list := range fillings(slices.Concat(begin, []int{place}), choices) {
				if !yield(list) {
					return
				}
			}
		}
	}
}

// countPut returns how many wares of a list are put somewhere.
func countPut(list []int) int {
	many := 0
	for _, place := range list {
		if place != nowhere {
			many++
		}
	}
	return many
}
