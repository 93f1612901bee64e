package stencil_test

import (
	"slices"
	"testing"

	"smalto/api"
	"smalto/stencil"
)

// P7.2, with example 1.
func TestWays(t *testing.T) {
	apart := letters(3, nil, nil)
	mirror := letters(2, pairs(pair(1, 0)), pairs(pair(1, 0)))
	three := letters(4, pairs(pair(1, 2)), pairs(pair(0, 1), pair(2, 0), pair(0, 3)))
	for name, x := range map[string]struct {
		s          api.StencilSet
		word, sign []int
		want       [][]api.StencilKind
	}{
		"example 1":                  {example(), list(0, 3, 4), list(1, 3, 4), ways(kinds(turned), kinds(right, turned), kinds(right))},
		"none at a place":            {example(), list(0, 1, 2), list(0, 2, 3), ways(kinds(right), nil, nil)},
		"none at all":                {example(), list(1), list(4), ways(nil)},
		"an alike one":               {example(), list(2, 0), list(0, 2), ways(kinds(taken), kinds(taken, both))},
		"an alike one on its head":   {example(), list(2), list(1), ways(kinds(both))},
		"unread":                     {example(), list(4), list(unread), ways(kinds(turned))},
		"an alike one that is not":   {example(), list(3), list(unread), ways(kinds(both))},
		"not unread":                 {example(), list(2, 0, 1), list(unread, unread, unread), ways(nil, nil, nil)},
		"alike one step, not two":    {letters(3, nil, pairs(pair(0, 1), pair(1, 2))), list(0, 0, 1), list(1, 2, 2), ways(kinds(taken), nil, kinds(taken))},
		"no pairs":                   {apart, list(0, 1, 2), list(0, 0, unread), ways(kinds(right), nil, kinds(turned))},
		"alike, and on their heads":  {mirror, list(0, 0, 1, 1), list(0, 1, 0, 1), ways(kinds(right, both), kinds(turned, taken), kinds(turned, taken), kinds(right, both))},
		"one upright, one on a head": {three, list(0), list(1), ways(kinds(taken, both))},
		"some alike one, unread":     {three, list(0, 1, 3), list(unread, unread, unread), ways(kinds(turned, both), kinds(both), kinds(turned, both))},
		"the most places":            {example(), list(0, 0, 0, 0, 0, 0), list(0, 1, 2, 3, 4, unread), ways(kinds(right), kinds(turned), kinds(taken, both), nil, nil, nil)},
		"one letter":                 {letters(1, pairs(pair(0, 0)), nil), list(0, 0), list(0, unread), ways(kinds(right, turned), nil)},
	} {
		if got, e := stencil.Ways(x.s, x.word, x.sign); !slices.EqualFunc(got, x.want, slices.Equal) || e != api.OK {
			t.Error(name, got, e)
		}
	}
}

// P7.3, with example 1.
func TestFewest(t *testing.T) {
	mirror := letters(2, pairs(pair(0, 1)), pairs(pair(0, 1)))
	for name, x := range map[string]struct {
		s          api.StencilSet
		word, sign []int
		want       []api.StencilKind
		faults     int
		e          api.Errno
	}{
		"example 1":                {example(), list(0, 3, 4), list(1, 3, 4), kinds(turned, right, right), 1, api.OK},
		"none":                     {example(), list(0, 3, 4), list(0, 3, 4), kinds(right, right, right), 0, api.OK},
		"no kind at the first":     {example(), list(1, 3), list(4, 3), nil, 0, api.ErrNone},
		"no kind at the last":      {example(), list(3, 1), list(3, 4), nil, 0, api.ErrNone},
		"turned, not taken":        {mirror, list(0, 1), list(1, 0), kinds(turned, turned), 2, api.OK},
		"right, not both":          {mirror, list(0, 1), list(0, 1), kinds(right, right), 0, api.OK},
		"taken, not both":          {example(), list(0), list(2), kinds(taken), 1, api.OK},
		"both":                     {example(), list(2, 4), list(1, 3), kinds(both, taken), 3, api.OK},
		"unread":                   {example(), list(4, 3), list(unread, unread), kinds(turned, both), 3, api.OK},
		"twelve faults, the most":  {example(), list(2, 2, 2, 2, 2, 2), list(1, 1, 1, 1, 1, 1), kinds(both, both, both, both, both, both), 12, api.OK},
		"one place, without pairs": {letters(1, nil, nil), list(0), list(unread), kinds(turned), 1, api.OK},
	} {
		if got, faults, e := stencil.Fewest(x.s, x.word, x.sign); !slices.Equal(got, x.want) || faults != x.faults || e != x.e {
			t.Error(name, got, faults, e)
		}
	}
}

// four are the words of example 2.
func four() [][]int {
	return lists(list(0, 3, 4), list(1, 3, 4), list(2, 3, 4), list(0, 4, 3))
}

// P7.4, with example 2.
func TestMeant(t *testing.T) {
	sign := list(1, 3, 4)
	for name, x := range map[string]struct {
		words [][]int
		sign  []int
		most  int
		want  []int
		e     api.Errno
	}{
		"example 2, up to 1":    {four(), sign, 1, list(0, 1), api.OK},
		"example 2, up to 2":    {four(), sign, 2, list(0, 1, 2), api.OK},
		"example 2, up to 3":    {four(), sign, 3, list(0, 1, 2, 3), api.OK},
		"no faults":             {four(), sign, 0, list(1), api.OK},
		"the most":              {four(), sign, 12, list(0, 1, 2, 3), api.OK},
		"none":                  {four(), list(4, 4, 4), 12, nil, api.ErrNone},
		"none with so few":      {four()[2:], sign, 1, nil, api.ErrNone},
		"no words":              {nil, sign, 12, nil, api.ErrNone},
		"a longer one":          {lists(list(1, 3, 4, 0), list(0, 3, 4), list(1, 3)), sign, 12, list(1), api.OK},
		"only longer ones":      {lists(list(1, 3, 4, 0), list(1, 3)), sign, 12, nil, api.ErrNone},
		"a word twice":          {lists(list(1, 3, 4), list(4, 4, 4), list(1, 3, 4)), sign, 0, list(0, 2), api.OK},
		"twelve faults":         {lists(list(2, 2, 2, 2, 2, 2)), list(1, 1, 1, 1, 1, 1), 12, list(0), api.OK},
		"eleven of them":        {lists(list(2, 2, 2, 2, 2, 2)), list(1, 1, 1, 1, 1, 1), 11, nil, api.ErrNone},
		"unread":                {lists(list(4), list(3), list(2)), list(unread), 1, list(0), api.OK},
		"unread, up to 2":       {lists(list(4), list(3), list(2)), list(unread), 2, list(0, 1), api.OK},
		"five, all of one sign": {slices.Repeat(lists(list(0)), 5), list(1), 1, list(0, 1, 2, 3, 4), api.OK},
	} {
		if got, e := stencil.Meant(example(), x.words, x.sign, x.most); !slices.Equal(got, x.want) || e != x.e {
			t.Error(name, got, e)
		}
	}
}

// P7.5, with example 3.
func TestAsk(t *testing.T) {
	sign := list(1, 3, 4)
	mirror := letters(2, pairs(pair(0, 1)), pairs(pair(0, 1)))
	turns := letters(4, pairs(pair(0, 1), pair(2, 3)), nil)
	three := letters(4, pairs(pair(1, 2)), pairs(pair(0, 1), pair(0, 2)))
	for name, x := range map[string]struct {
		s           api.StencilSet
		words       [][]int
		sign        []int
		most        int
		place, left int
		e           api.Errno
	}{
		"example 3":                       {example(), four(), sign, 2, 0, 2, api.OK},
		"up to 1":                         {example(), four(), sign, 1, 0, 1, api.OK},
		"up to 3":                         {example(), four(), sign, 3, 0, 3, api.OK},
		"the last place":                  {example(), lists(list(4, 3, 0), list(4, 3, 1)), list(4, 3, 1), 2, 2, 1, api.OK},
		"one word":                        {example(), four(), sign, 0, 0, 0, api.ErrTwice},
		"none":                            {example(), four(), list(4, 4, 4), 12, 0, 0, api.ErrNone},
		"no words":                        {example(), nil, sign, 12, 0, 0, api.ErrNone},
		"one word, twice":                 {example(), lists(list(0, 3, 4), list(0, 3, 4)), sign, 1, 0, 0, api.ErrTwice},
		"the same stencil":                {example(), lists(list(0), list(2)), list(1), 2, 0, 0, api.ErrTwice},
		"the first one of two":            {turns, lists(list(2, 0, 0), list(2, 1, 1)), list(2, 0, 0), 2, 1, 1, api.OK},
		"the smaller one of two":          {turns, lists(list(0, 2), list(1, 3), list(1, 2)), list(0, 2), 2, 0, 2, api.OK},
		"a later one is smaller":          {turns, lists(list(0, 2, 1), list(1, 3, 0), list(1, 2, 1), list(1, 3, 1)), list(0, 2, 1), 3, 1, 2, api.OK},
		"either, with 2 faults":           {mirror, lists(list(0), list(1)), list(0), 2, 0, 0, api.ErrTwice},
		"with 1, one lies for both":       {mirror, lists(list(0), list(1)), list(0), 1, 0, 0, api.ErrTwice},
		"one of two words":                {mirror, lists(list(0, 0), list(0, 1)), list(1, 1), 1, 0, 0, api.ErrTwice},
		"a fault less tells them apart":   {letters(3, pairs(pair(0, 1)), pairs(pair(0, 2), pair(1, 2))), lists(list(0), list(2)), list(1), 1, 0, 1, api.OK},
		"with more it does not":           {letters(3, pairs(pair(0, 1)), pairs(pair(0, 2), pair(1, 2))), lists(list(0), list(2)), list(1), 2, 0, 0, api.ErrTwice},
		"a fault elsewhere is one less":   {letters(4, pairs(pair(0, 1), pair(3, 3)), pairs(pair(0, 2), pair(1, 2), pair(3, 2))), lists(list(0, 2), list(2, 2)), list(1, 3), 2, 0, 1, api.OK},
		"two letters by one kind":         {three, lists(list(0), list(1)), list(1), 2, 0, 0, api.ErrTwice},
		"up to 1, one by its kind":        {three, lists(list(0), list(2)), list(1), 1, 0, 1, api.OK},
		"right and turned, one letter":    {example(), lists(list(3), list(4), list(4)), list(3), 2, 0, 0, api.ErrTwice},
		"words of other lengths are none": {example(), lists(list(1, 3), list(0, 3, 4), list(1, 3, 4), list(1)), sign, 12, 0, 1, api.OK},
	} {
		if place, left, e := stencil.Ask(x.s, x.words, x.sign, x.most); place != x.place || left != x.left || e != x.e {
			t.Error(name, place, left, e)
		}
	}
}

// P7.6, with example 4.
func TestLay(t *testing.T) {
	for name, x := range map[string]struct {
		s           api.StencilSet
		count, word []int
		want        []int
		e           api.Errno
	}{
		"example 4":               {example(), list(1, 0, 1, 1, 1), list(1, 3, 4), list(0, 3, 4), api.OK},
		"upright":                 {example(), list(1, 1, 1, 1, 1), list(0, 1, 2, 3, 4), list(0, 1, 2, 3, 4), api.OK},
		"the smallest one":        {example(), list(1, 1, 0, 0, 0), list(1, 0), list(0, 1), api.OK},
		"as many as there are":    {example(), list(2, 3, 0, 0, 0), list(1, 1, 0, 1, 0), list(0, 0, 1, 1, 1), api.OK},
		"one more than there are": {example(), list(2, 3, 0, 0, 0), list(1, 1, 0, 1, 0, 0), nil, api.ErrNone},
		"not an alike one":        {example(), list(1, 0, 1, 1, 0), list(4), nil, api.ErrNone},
		"nor on its head":         {example(), list(0, 0, 1, 0, 0), list(1), nil, api.ErrNone},
		"only on their heads":     {example(), list(0, 2, 0, 0, 0), list(0, 0), list(1, 1), api.OK},
		"itself on its head":      {example(), list(0, 0, 1, 0, 0), list(2, 2), nil, api.ErrNone},
		"of another one":          {letters(3, pairs(pair(2, 0)), nil), list(1, 1, 1), list(2, 1, 0), list(0, 1, 2), api.OK},
		"none":                    {example(), list(0, 0, 0, 0, 0), list(0), nil, api.ErrNone},
		"five":                    {letters(1, nil, nil), list(5), list(0, 0, 0, 0, 0), list(0, 0, 0, 0, 0), api.OK},
		"five for six":            {letters(1, nil, nil), list(5), list(0, 0, 0, 0, 0, 0), nil, api.ErrNone},
		"six of two letters":      {letters(2, pairs(pair(0, 1)), nil), list(1, 5), list(0, 0, 0, 0, 0, 0), list(0, 1, 1, 1, 1, 1), api.OK},
	} {
		if got, e := stencil.Lay(x.s, x.count, x.word); !slices.Equal(got, x.want) || e != x.e {
			t.Error(name, got, e)
		}
	}
}

// P7.7, with example 4.
func TestLack(t *testing.T) {
	for name, x := range map[string]struct {
		count, word []int
		want        []int
		e           api.Errno
	}{
		"example 4":                {list(1, 0, 1, 1, 1), list(0, 1), list(0), api.OK},
		"the whole word goes":      {list(1, 0, 1, 1, 1), list(1, 3, 4), nil, api.ErrTwice},
		"all places":               {list(0, 0, 0, 0, 0), list(4, 0, 2, 3, 1, 1), list(0, 1, 2, 3, 4, 5), api.OK},
		"the first ones":           {list(1, 1, 0, 0, 0), list(1, 0, 0, 1), list(0, 1), api.OK},
		"the first one of each":    {list(1, 0, 1, 1, 0), list(3, 0, 2, 3, 2, 1), list(0, 1, 2), api.OK},
		"only one has none":        {list(5, 5, 5, 5, 0), list(0, 3, 4), list(2), api.OK},
		"an alike one is no help":  {list(0, 0, 0, 5, 0), list(4, 3, 4), list(0, 2), api.OK},
		"just one too few":         {list(0, 0, 5, 0, 0), list(2, 2, 2, 2, 2, 2), list(0), api.OK},
		"on its head":              {list(0, 1, 0, 0, 0), list(0), nil, api.ErrTwice},
		"the others are laid last": {list(0, 1, 0, 0, 1), list(0, 4, 1, 4), list(0, 1), api.OK},
	} {
		if got, e := stencil.Lack(example(), x.count, x.word); !slices.Equal(got, x.want) || e != x.e {
			t.Error(name, got, e)
		}
	}
}

// P7.8, with example 4.
func TestCut(t *testing.T) {
	none := list(0, 0, 0, 0, 0)
	for name, x := range map[string]struct {
		s     api.StencilSet
		count []int
		words [][]int
		want  []int
	}{
		"example 4":                {example(), list(1, 0, 1, 1, 1), lists(list(0, 1), list(1, 3, 4)), list(0, 1, 0, 0, 0)},
		"no words":                 {example(), none, nil, none},
		"nothing to cut":           {example(), list(1, 0, 1, 1, 1), lists(list(1, 3, 4), list(0), list(2)), none},
		"one after another":        {example(), none, lists(list(2, 2), list(2, 2, 2), list(2)), list(0, 0, 3, 0, 0)},
		"of several words":         {example(), none, lists(list(2, 0), list(3, 3), list(4, 1, 1)), list(0, 2, 1, 2, 1)},
		"the last letter":          {example(), none, lists(list(0, 0)), list(0, 2, 0, 0, 0)},
		"whichever pair":           {letters(3, pairs(pair(2, 0)), nil), list(0, 0, 0), lists(list(0, 1, 2)), list(0, 1, 2)},
		"besides those there are":  {example(), list(2, 1, 0, 1, 0), lists(list(0, 0, 0, 1, 1), list(3, 3)), list(0, 2, 0, 1, 0)},
		"alike ones are no help":   {example(), list(5, 5, 0, 5, 0), lists(list(2, 4)), list(0, 0, 1, 0, 1)},
		"six":                      {example(), none, lists(list(4, 4, 4, 4, 4, 4)), list(0, 0, 0, 0, 6)},
		"more than a case can be":  {letters(1, nil, nil), list(5), lists(list(0), list(0, 0, 0, 0, 0, 0)), list(1)},
		"five words of six":        {letters(2, nil, nil), list(0, 0), lists(list(0, 0, 0, 0, 0, 0), list(0), list(1, 1, 1, 1, 1, 1), list(0, 1), list(1)), list(6, 6)},
		"the one that lacks most":  {example(), list(0, 1, 0, 0, 0), lists(list(0, 1), list(0, 0, 0, 1), list(1)), list(0, 3, 0, 0, 0)},
		"each by another one most": {example(), none, lists(list(2, 2, 3), list(2, 3, 3)), list(0, 0, 2, 2, 0)},
	} {
		if got, e := stencil.Cut(x.s, x.count, x.words); !slices.Equal(got, x.want) || e != api.OK {
			t.Error(name, got, e)
		}
	}
}

// P7.9, P7.10, with example 5.
func TestWhose(t *testing.T) {
	one := letters(1, nil, nil)
	for name, x := range map[string]struct {
		s                api.StencilSet
		cases            [][]int
		heap             []int
		lost             int
		want             [][]int
		surely, possibly []int
		e                api.Errno
	}{
		"example 5":               {example(), owners(), list(1, 1, 1, 1, 2), 2, lists(list(0, 1), list(1, 2)), list(1), list(0, 1, 2), api.OK},
		"fewer are lost":          {example(), owners(), list(1, 1, 1, 1, 2), 1, lists(list(1, 2)), list(1, 2), list(1, 2), api.OK},
		"too few":                 {example(), owners(), list(1, 1, 1, 1, 2), 0, nil, nil, nil, api.ErrNone},
		"all of them, too":        {example(), owners(), list(1, 1, 1, 1, 2), 5, lists(list(0, 1), list(0, 1, 2), list(1, 2)), list(1), list(0, 1, 2), api.OK},
		"one case":                {example(), owners(), list(2, 0, 0, 1, 0), 0, lists(list(2)), list(2), list(2), api.OK},
		"more than all":           {example(), owners(), list(0, 2, 0, 0, 0), 20, nil, nil, nil, api.ErrNone},
		"no cases":                {example(), nil, list(0, 0, 0, 0, 0), 20, nil, nil, nil, api.ErrNone},
		"an empty heap":           {example(), owners(), list(0, 0, 0, 0, 0), 4, lists(list(0), list(1), list(2)), nil, list(0, 1, 2), api.OK},
		"an empty heap, none":     {example(), owners(), list(0, 0, 0, 0, 0), 2, nil, nil, nil, api.ErrNone},
		"an empty case":           {one, lists(list(0), list(1)), list(0), 0, lists(list(0)), list(0), list(0), api.OK},
		"an empty case, perhaps":  {one, lists(list(0), list(1)), list(1), 0, lists(list(0, 1), list(1)), list(1), list(0, 1), api.OK},
		"a beginning first":       {one, lists(list(1), list(1), list(1)), list(1), 2, lists(list(0), list(0, 1), list(0, 1, 2), list(0, 2), list(1), list(1, 2), list(2)), nil, list(0, 1, 2), api.OK},
		"not on their heads":      {example(), lists(list(1, 0, 0, 0, 0)), list(0, 1, 0, 0, 0), 20, nil, nil, nil, api.ErrNone},
		"twenty, all of them":     {one, lists(list(5), list(5), list(5), list(5)), list(20), 0, lists(list(0, 1, 2, 3)), list(0, 1, 2, 3), list(0, 1, 2, 3), api.OK},
		"twenty are lost":         {one, lists(list(5), list(5), list(5), list(5)), list(0), 20, all4(), nil, list(0, 1, 2, 3), api.OK},
		"nineteen are, not all":   {one, lists(list(5), list(5), list(5), list(5)), list(0), 19, but4(all4(), 0, 1, 2, 3), nil, list(0, 1, 2, 3), api.OK},
		"in all but the last one": {one, lists(list(3), list(1), list(1)), list(3), 1, lists(list(0), list(0, 1), list(0, 2)), list(0), list(0, 1, 2), api.OK},
		"lost of all letters":     {letters(3, nil, nil), lists(list(1, 1, 1)), list(0, 0, 0), 2, nil, nil, nil, api.ErrNone},
	} {
		got, e := stencil.Whose(x.s, x.cases, x.heap, x.lost)
		if !slices.EqualFunc(got, x.want, slices.Equal) || e != x.e {
			t.Error(name, got, e)
		}
		if surely, possibly, e := stencil.Mixed(x.s, x.cases, x.heap, x.lost); !slices.Equal(surely, x.surely) || !slices.Equal(possibly, x.possibly) || e != x.e {
			t.Error(name, surely, possibly, e)
		}
	}
}

// all4 returns all lists of four cases that ascend.
func all4() [][]int {
	return lists(
		list(0), list(0, 1), list(0, 1, 2), list(0, 1, 2, 3), list(0, 1, 3), list(0, 2), list(0, 2, 3), list(0, 3),
		list(1), list(1, 2), list(1, 2, 3), list(1, 3), list(2), list(2, 3), list(3),
	)
}

// but4 returns lists without one of them.
func but4(l [][]int, one ...int) [][]int {
	return slices.DeleteFunc(l, func(x []int) bool { return slices.Equal(x, one) })
}
