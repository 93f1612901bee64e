package letter_test

import (
	"slices"
	"testing"

	"smalto/api"
	"smalto/letter"
)

// P4.2, with example 1.
func TestNeed(t *testing.T) {
	for name, x := range map[string]struct {
		c    api.LetterCase
		word []int
		want int
	}{
		"example 1":              {example(), list(0, 1, 2, 3), 45},
		"the other way":          {example(), list(3, 2, 1, 0), 45},
		"one letter":             {example(), list(2), 13},
		"one letter, no rim":     {example(rim(0)), list(2), 3},
		"the widest letter":      {free(30), list(0), 30},
		"the narrowest one":      {free(1), list(0), 1},
		"no pair":                {example(), list(0, 3), 30},
		"a pair, more":           {example(), list(3, 1), 28},
		"a pair, turned":         {example(), list(1, 3), 30},
		"twice the same letter":  {example(), list(0, 0), 32},
		"a pair of the same":     {example(pairs(pair(0, 0, 1))), list(0, 0, 0), 42},
		"just Least":             {example(pairs(pair(0, 1, 2))), list(0, 1), 30},
		"one less than Least":    {example(pairs(pair(0, 1, 1))), list(0, 1), 31},
		"more than Least":        {example(pairs(pair(0, 1, 5))), list(0, 1), 30},
		"looks closer":           {example(pairs(pair(0, 1, -5))), list(0, 1), 37},
		"looks closer, no Least": {example(pairs(pair(0, 1, -5)), least(0)), list(0, 1), 35},
		"no More, no Least":      {example(pairs(pair(0, 1, 0)), least(0)), list(0, 1), 30},
		"the longest word":       {changed(free(30), rim(20), least(10), pairs(pair(0, 0, -5))), list(0, 0, 0, 0, 0, 0, 0), 340},
		"the shortest word":      {free(1), list(0, 0, 0, 0, 0, 0, 0), 7},
		"neighbours alone":       {example(), list(0, 2, 1), 37},
		"the eighth letter":      {free(1, 2, 3, 4, 5, 6, 7, 9), list(7, 0, 7), 19},
		"blanks do not count":    {example(blank(30)), list(0, 1, 2, 3), 45},
	} {
		if need, e := letter.Need(x.c, x.word); need != x.want || e != api.OK {
			t.Error(name, need, e)
		}
	}
}

// P4.3, with example 1.
func TestLooks(t *testing.T) {
	for name, x := range map[string]struct {
		c          api.LetterCase
		word, gaps []int
		looks      []int
		spread     int
	}{
		"example 1":            {example(), list(0, 1, 2, 3), list(2, 5, 6), list(5, 5, 6), 1},
		"one letter":           {example(), list(3), nil, nil, 0},
		"one gap":              {example(), list(3, 1), list(7), list(11), 0},
		"one gap, turned":      {example(), list(1, 3), list(7), list(7), 0},
		"closer than closest":  {example(), list(0, 2, 3), list(0, 1), list(0, 1), 1},
		"looks below 0":        {example(pairs(pair(0, 1, -5))), list(0, 1, 2), list(0, 1), list(-5, 1), 6},
		"all below 0":          {example(pairs(pair(0, 0, -5), pair(0, 1, -2))), list(0, 0, 1), list(0, 0), list(-5, -2), 3},
		"the widest one first": {example(), list(0, 1, 0, 2), list(9, 1, 2), list(12, 4, 2), 10},
		"all alike":            {example(), list(0, 1, 0, 2), list(1, 1, 4), list(4, 4, 4), 0},
		"the widest gaps":      {free(1), list(0, 0, 0, 0, 0, 0, 0), list(400, 400, 0, 400, 400, 400), list(400, 400, 0, 400, 400, 400), 400},
		"More and less":        {example(pairs(pair(0, 1, 5), pair(1, 0, -5))), list(0, 1, 0, 1), list(400, 4, 5), list(405, -1, 10), 406},
	} {
		looks, spread, e := letter.Looks(x.c, x.word, x.gaps)
		if !slices.Equal(looks, x.looks) || spread != x.spread || e != api.OK {
			t.Error(name, looks, spread, e)
		}
	}
}

// P4.4, with example 2.
func TestLay(t *testing.T) {
	closer := example(pairs(pair(0, 1, 5), pair(1, 0, -5)))
	for name, x := range map[string]struct {
		c      api.LetterCase
		word   []int
		length int
		gaps   []int
		spread int
		e      api.Errno
	}{
		"example 2, 53":      {example(), list(0, 1, 2, 3), 53, list(2, 5, 5), 0, api.OK},
		"example 2, 54":      {example(), list(0, 1, 2, 3), 54, list(2, 5, 6), 1, api.OK},
		"example 2, 45":      {example(), list(0, 1, 2, 3), 45, list(0, 2, 2), 1, api.OK},
		"example 2, 44":      {example(), list(0, 1, 2, 3), 44, nil, 0, api.ErrFull},
		"one more":           {example(), list(0, 1, 2, 3), 46, list(0, 2, 3), 1, api.OK},
		"two more":           {example(), list(0, 1, 2, 3), 47, list(0, 3, 3), 0, api.OK},
		"three more":         {example(), list(0, 1, 2, 3), 48, list(0, 3, 4), 1, api.OK},
		"one letter":         {example(), list(2), 400, nil, 0, api.OK},
		"one letter, just":   {example(), list(2), 13, nil, 0, api.OK},
		"one letter, not":    {example(), list(2), 12, nil, 0, api.ErrFull},
		"one gap":            {example(), list(2, 3), 100, list(79), 0, api.OK},
		"one gap, just":      {example(), list(2, 3), 23, list(2), 0, api.OK},
		"one gap, not":       {example(), list(2, 3), 22, nil, 0, api.ErrFull},
		"one too wide":       {closer, list(0, 1, 2), 35, list(0, 2), 3, api.OK},
		"the others grow":    {closer, list(0, 1, 2), 37, list(0, 4), 1, api.OK},
		"all grow":           {closer, list(0, 1, 2), 39, list(0, 6), 1, api.OK},
		"More and less":      {closer, list(0, 1, 0, 2), 60, list(0, 11, 6), 1, api.OK},
		"the wide one first": {closer, list(0, 1, 0), 47, list(0, 7), 3, api.OK},
		"the wide one last":  {closer, list(1, 0, 1), 47, list(7, 0), 3, api.OK},
		"alike":              {free(1), list(0, 0, 0, 0), 13, list(3, 3, 3), 0, api.OK},
		"one of three":       {free(1), list(0, 0, 0, 0), 14, list(3, 3, 4), 1, api.OK},
		"two of three":       {free(1), list(0, 0, 0, 0), 15, list(3, 4, 4), 1, api.OK},
		"all closed":         {free(1), list(0, 0, 0, 0), 4, list(0, 0, 0), 0, api.OK},
		"the longest plate":  {free(1), list(0, 0, 0, 0, 0, 0, 0), 400, list(65, 65, 65, 66, 66, 66), 1, api.OK},
		"a gap of 398":       {free(1), list(0, 0), 400, list(398), 0, api.OK},
		"the longest word":   {changed(free(30), rim(20), least(10), pairs(pair(0, 0, -5))), list(0, 0, 0, 0, 0, 0, 0), 340, list(15, 15, 15, 15, 15, 15), 0, api.OK},
		"it does not go":     {changed(free(30), rim(20), least(10), pairs(pair(0, 0, -5))), list(0, 0, 0, 0, 0, 0, 0), 339, nil, 0, api.ErrFull},
		"the smallest list":  {changed(free(1, 1), pairs(pair(0, 1, 5))), list(0, 0, 1, 0), 5, list(0, 0, 1), 5, api.OK},
		"beside a wide one":  {changed(free(1, 1), pairs(pair(0, 1, 5))), list(0, 0, 1, 0), 6, list(1, 0, 1), 4, api.OK},
	} {
		gaps, spread, e := letter.Lay(x.c, x.word, x.length)
		if !slices.Equal(gaps, x.gaps) || spread != x.spread || e != x.e {
			t.Error(name, gaps, spread, e)
		}
	}
}

// P4.5, with example 3.
func TestLeft(t *testing.T) {
	apart := changed(free(10, 1, 10), pairs(pair(0, 2, -5)))
	for name, x := range map[string]struct {
		c      api.LetterCase
		word   []int
		length int
		want   []int
		e      api.Errno
	}{
		"example 3":          {example(), list(0, 1, 2, 3), 36, list(0), api.OK},
		"it goes":            {example(), list(0, 1, 2, 3), 45, nil, api.ErrTwice},
		"it goes easily":     {example(), list(0, 1, 2, 3), 400, nil, api.ErrTwice},
		"one less":           {example(), list(0, 1, 2, 3), 44, list(0), api.OK},
		"two letters":        {example(), list(0, 1, 2, 3), 34, list(0, 1), api.OK},
		"not the first two":  {example(widths(3, 8, 10, 10), pairs()), list(2, 0, 3, 1), 24, list(0, 2), api.OK},
		"all but the last":   {example(), list(0, 1, 3, 2), 13, list(0, 1, 2), api.OK},
		"all but the first":  {example(), list(2, 1, 3, 0), 13, list(1, 2, 3), api.OK},
		"none goes":          {example(), list(0, 1, 2, 3), 12, nil, api.ErrState},
		"one letter, none":   {example(), list(2), 12, nil, api.ErrState},
		"one letter, goes":   {example(), list(2), 13, nil, api.ErrTwice},
		"the shortest plate": {example(), list(2), 1, nil, api.ErrState},
		"the first of alike": {free(10), list(0, 0, 0), 20, list(0), api.OK},
		"the widest one":     {free(10, 11), list(0, 1, 0), 20, list(1), api.OK},
		"the rest is longer": {apart, list(0, 1, 2), 20, list(0), api.OK},
		"the place, not it":  {free(10, 1), list(1, 0, 1, 0), 12, list(1), api.OK},
		"less than a gap":    {changed(apart, least(10)), list(0, 1, 2), 30, list(0), api.OK},
		"a pair that is new": {changed(free(10, 6, 10), least(5), pairs(pair(0, 2, 5))), list(0, 1, 2), 20, list(1), api.OK},
		"seven letters":      {free(30, 1), list(0, 0, 0, 1, 0, 0, 0), 1, list(0, 1, 2, 4, 5, 6), api.OK},
	} {
		if left, e := letter.Left(x.c, x.word, x.length); !slices.Equal(left, x.want) || e != x.e {
			t.Error(name, left, e)
		}
	}
}

// P4.6, with example 3.
func TestWidest(t *testing.T) {
	eight := changed(free(1, 2, 3, 4, 5, 6, 7, 8), pairs(pair(7, 7, -5)))
	for name, x := range map[string]struct {
		c          api.LetterCase
		word       []int
		at, length int
		want       int
		e          api.Errno
	}{
		"example 3":            {example(), list(0, 1, 2, 3), 2, 60, 18, api.OK},
		"its own width":        {example(), list(0, 1, 2, 3), 2, 45, 3, api.OK},
		"one unit":             {example(), list(0, 1, 2, 3), 2, 43, 1, api.OK},
		"no width":             {example(), list(0, 1, 2, 3), 2, 42, 0, api.ErrFull},
		"no width at all":      {example(), list(0, 1, 2, 3), 2, 1, 0, api.ErrFull},
		"without its pair":     {example(), list(0, 1, 2, 3), 0, 45, 8, api.OK},
		"without both pairs":   {example(), list(0, 1, 0), 1, 50, 16, api.OK},
		"without a pair, last": {example(), list(2, 0, 1), 2, 40, 13, api.OK},
		"others keep pairs":    {example(), list(0, 1, 2), 2, 40, 8, api.OK},
		"the greatest width":   {example(), list(0, 1, 2, 3), 2, 72, 30, api.OK},
		"not wider than that":  {example(), list(0, 1, 2, 3), 2, 73, 30, api.OK},
		"on a long plate":      {example(), list(0, 1, 2, 3), 2, 400, 30, api.OK},
		"one letter":           {example(), list(3), 0, 25, 15, api.OK},
		"one letter, just":     {example(), list(3), 0, 11, 1, api.OK},
		"one letter, not":      {example(), list(3), 0, 10, 0, api.ErrFull},
		"one of two alike":     {example(), list(3, 2, 3), 2, 36, 11, api.OK},
		"of eight letters":     {eight, list(7, 7), 1, 20, 12, api.OK},
		"of eight, the first":  {eight, list(7, 7, 0), 0, 20, 11, api.OK},
	} {
		if width, e := letter.Widest(x.c, x.word, x.at, x.length); width != x.want || e != x.e {
			t.Error(name, width, e)
		}
	}
}

// P4.7, with example 4.
func TestLines(t *testing.T) {
	three := lists(list(0, 1), list(2, 3), list(3, 2))
	tens := changed(free(10, 20, 30, 1), blank(2))
	for name, x := range map[string]struct {
		c      api.LetterCase
		words  [][]int
		length int
		begins []int
		rest   int
		e      api.Errno
	}{
		"example 4":   {example(), three, 50, list(0, 1), 20, api.OK},
		"all on one":  {example(), three, 68, list(0), 0, api.OK},
		"one less":    {example(), three, 67, list(0, 1), 37, api.OK},
		"a line each": {example(), three, 41, list(0, 1, 2), 18, api.OK},
		"two go":      {example(), three, 42, list(0, 1), 12, api.OK},
		"just one":    {example(), three, 30, list(0, 1, 2), 7, api.OK},
		"the first one too long": {
			example(), three, 29, nil, 0, api.ErrFull},
		"the last one too long": {example(), lists(list(2), list(0, 0)), 31, nil, 0, api.ErrFull},
		"one word":              {example(), lists(list(2)), 20, list(0), 7, api.OK},
		"one word, just":        {example(), lists(list(2)), 13, list(0), 0, api.OK},
		"one word, not":         {example(), lists(list(2)), 12, nil, 0, api.ErrFull},
		"blank":                 {tens, lists(list(0), list(0)), 22, list(0), 0, api.OK},
		"blank, one less":       {tens, lists(list(0), list(0)), 21, list(0, 1), 11, api.OK},
		"no blank":              {changed(tens, blank(0)), lists(list(0), list(0)), 20, list(0), 0, api.OK},
		"pairs do not count":    {changed(tens, least(5), pairs(pair(0, 0, -5))), lists(list(0), list(0)), 22, list(0), 0, api.OK},
		"the smallest list":     {tens, lists(list(0), list(0), list(0)), 30, list(0, 1), 20, api.OK},
		"the least rest":        {tens, lists(list(1), list(0), list(0)), 32, list(0, 1), 12, api.OK},
		"the least rest, later": {tens, lists(list(0), list(0), list(1)), 32, list(0, 2), 12, api.OK},
		"the fewest lines":      {tens, lists(list(0), list(0), list(1), list(0)), 34, list(0, 2), 12, api.OK},
		"five words":            {tens, lists(list(0), list(1), list(0), list(1), list(0)), 34, list(0, 1, 3), 24, api.OK},
		"five, shared":          {tens, lists(list(0), list(0), list(0), list(0), list(0)), 40, list(0, 2), 18, api.OK},
		"five, all on one":      {tens, lists(list(0), list(0), list(0), list(0), list(0)), 58, list(0), 0, api.OK},
		"five lines":            {tens, lists(list(2), list(2), list(2), list(2), list(3)), 32, list(0, 1, 2, 3, 4), 31, api.OK},
		"the last line counts":  {tens, lists(list(2), list(2), list(3)), 33, list(0, 1), 3, api.OK},
		"the longest line":      {changed(free(30), blank(30)), lists(list(0), list(0), list(0), list(0), list(0)), 400, list(0), 130, api.OK},
	} {
		begins, rest, e := letter.Lines(x.c, x.words, x.length)
		if !slices.Equal(begins, x.begins) || rest != x.rest || e != x.e {
			t.Error(name, begins, rest, e)
		}
	}
}

// P4.8, with example 5.
func TestPick(t *testing.T) {
	two := lists(list(0, 1), list(2, 3))
	tens := free(10, 20, 30)
	for name, x := range map[string]struct {
		c      api.LetterCase
		words  [][]int
		plates []int
		want   []int
		e      api.Errno
	}{
		"example 5":           {example(), two, list(40, 25, 30, 50), list(2, 1), api.OK},
		"just as long":        {example(), two, list(23, 30), list(1, 0), api.OK},
		"too short, one":      {example(), two, list(22, 30), nil, api.ErrState},
		"too short, two":      {example(), two, list(23, 29), nil, api.ErrState},
		"no words":            {example(), nil, list(40, 25), nil, api.OK},
		"no words, no plates": {example(), nil, nil, nil, api.OK},
		"no plates":           {example(), two, nil, nil, api.ErrState},
		"a plate too few":     {example(), two, list(400), nil, api.ErrState},
		"both want one":       {example(), lists(list(0, 1), list(0, 1)), list(30, 29), nil, api.ErrState},
		"the smallest list":   {tens, lists(list(0), list(0)), list(20, 10, 10, 10), list(1, 2), api.OK},
		"all as long":         {tens, lists(list(0), list(0), list(0)), list(10, 10, 10), list(0, 1, 2), api.OK},
		"the wide one waits":  {tens, lists(list(0), list(2)), list(30, 20), list(1, 0), api.OK},
		"turned":              {tens, lists(list(2), list(0)), list(20, 30), list(1, 0), api.OK},
		"together the least":  {tens, lists(list(0), list(1), list(0)), list(20, 15, 25, 10), list(1, 0, 3), api.OK},
		"which is no matter":  {tens, lists(list(1), list(1)), list(30, 25, 25), list(1, 2), api.OK},
		"the last plate":      {tens, lists(list(2)), list(29, 28, 27, 26, 25, 30), list(5), api.OK},
		"five on six":         {tens, lists(list(0), list(1), list(2), list(1), list(0)), list(30, 20, 10, 20, 11, 10), list(2, 1, 0, 3, 5), api.OK},
		"the longest plates":  {tens, lists(list(0), list(0)), list(400, 400, 399), list(0, 2), api.OK},
	} {
		if pick, e := letter.Pick(x.c, x.words, x.plates); !slices.Equal(pick, x.want) || e != x.e {
			t.Error(name, pick, e)
		}
	}
}

// P4.9, with example 6.
func TestWrong(t *testing.T) {
	for name, x := range map[string]struct {
		c          api.LetterCase
		word, gaps []int
		most       int
		want       []int
		e          api.Errno
	}{
		"example 6":          {example(), list(0, 1, 2, 3), list(2, 5, 9), 1, list(2), api.OK},
		"just so much":       {example(), list(0, 1, 2, 3), list(2, 5, 9), 4, nil, api.ErrTwice},
		"one less":           {example(), list(0, 1, 2, 3), list(2, 5, 9), 3, list(2), api.OK},
		"alike":              {example(), list(0, 1, 2, 3), list(2, 5, 5), 0, nil, api.ErrTwice},
		"one letter":         {example(), list(0), nil, 0, nil, api.ErrTwice},
		"one gap":            {example(), list(0, 1), list(400), 0, nil, api.ErrTwice},
		"one of two":         {example(), list(0, 1, 2), list(0, 4), 0, list(0), api.OK},
		"the first of two":   {free(1), list(0, 0, 0), list(9, 1), 7, list(0), api.OK},
		"the first one":      {free(1), list(0, 0, 0, 0), list(9, 1, 1), 7, list(0), api.OK},
		"the middle one":     {free(1), list(0, 0, 0, 0), list(1, 9, 2), 1, list(1), api.OK},
		"the smallest list":  {free(1), list(0, 0, 0, 0), list(1, 3, 5), 2, list(0), api.OK},
		"two of them":        {free(1), list(0, 0, 0, 0, 0), list(1, 9, 5, 1), 3, list(1, 2), api.OK},
		"fewer, though last": {free(1), list(0, 0, 0, 0, 0), list(1, 3, 3, 9), 2, list(3), api.OK},
		"all but one":        {free(1), list(0, 0, 0, 0, 0, 0, 0), list(0, 10, 20, 30, 40, 50), 9, list(0, 1, 2, 3, 4), api.OK},
		"all but two":        {free(1), list(0, 0, 0, 0, 0, 0, 0), list(0, 10, 20, 29, 40, 50), 9, list(0, 1, 4, 5), api.OK},
		"looks, not gaps":    {example(), list(0, 1, 0, 1), list(2, 2, 2), 0, nil, api.ErrTwice},
		"looks below 0":      {example(pairs(pair(0, 0, -5))), list(0, 0, 2, 1), list(0, 1, 2), 5, list(0), api.OK},
		"the greatest most":  {example(pairs(pair(0, 0, -5))), list(0, 0, 2), list(0, 400), 400, list(0), api.OK},
	} {
		if wrong, e := letter.Wrong(x.c, x.word, x.gaps, x.most); !slices.Equal(wrong, x.want) || e != x.e {
			t.Error(name, wrong, e)
		}
	}
}

// P4.10, with example 7.
func TestCan(t *testing.T) {
	const blot = api.LetterBlot
	eight := free(1, 2, 4, 8, 16, 1, 2, 4)
	for name, x := range map[string]struct {
		c          api.LetterCase
		word, gaps []int
		length     api.Span
		want       [][]int
		e          api.Errno
	}{
		"example 7":            {example(), list(0, blot, 3), list(2, 5), span(40, 45), lists(list(0, 1, 3)), api.OK},
		"one length":           {example(), list(0, blot, 3), list(2, 5), span(38, 38), lists(list(2)), api.OK},
		"all letters":          {example(), list(0, blot, 3), list(2, 5), span(38, 45), lists(list(0, 1, 2, 3)), api.OK},
		"all lengths":          {example(), list(0, blot, 3), list(2, 5), span(1, 400), lists(list(0, 1, 2, 3)), api.OK},
		"none as long":         {example(), list(0, blot, 3), list(2, 5), span(39, 42), nil, api.ErrState},
		"too short":            {example(), list(0, blot, 3), list(2, 5), span(1, 37), nil, api.ErrState},
		"too long":             {example(), list(0, blot, 3), list(2, 5), span(46, 400), nil, api.ErrState},
		"no blot":              {example(), list(0, 1, 3), list(2, 5), span(45, 45), nil, api.OK},
		"no blot, too short":   {example(), list(0, 1, 3), list(2, 5), span(1, 44), nil, api.ErrState},
		"no blot, too long":    {example(), list(0, 1, 3), list(2, 5), span(46, 400), nil, api.ErrState},
		"one letter":           {example(), list(2), nil, span(13, 13), nil, api.OK},
		"one letter, not":      {example(), list(2), nil, span(14, 14), nil, api.ErrState},
		"one blot alone":       {example(), list(blot), nil, span(1, 19), lists(list(2, 3)), api.OK},
		"two blots alone":      {example(), list(blot, blot), list(4), span(20, 20), lists(list(2), list(2)), api.OK},
		"one with the other":   {example(), list(blot, 0, blot), list(2, 5), span(38, 38), lists(list(2, 3), list(2, 3)), api.OK},
		"three for one":        {example(), list(blot, 0, blot), list(2, 5), span(40, 40), lists(list(0, 1, 2), list(0, 1, 2)), api.OK},
		"no two":               {example(), list(blot, 0, blot), list(2, 5), span(39, 39), nil, api.ErrState},
		"pairs do not count":   {example(least(10)), list(0, blot), list(0), span(30, 30), lists(list(0, 1)), api.OK},
		"gaps that are closer": {example(least(10)), list(2, blot), list(1), span(17, 17), lists(list(2)), api.OK},
		"gaps that are long":   {example(), list(2, blot), list(377), span(400, 400), lists(list(0, 1)), api.OK},
		"gaps too long":        {example(), list(2, blot, 2), list(400, 400), span(1, 400), nil, api.ErrState},
		"eight letters":        {eight, list(blot, 4, 4, blot, 4, 4, 4), list(0, 0, 0, 0, 0, 0), span(92, 92), lists(list(2, 3, 7), list(2, 3, 7)), api.OK},
		"the last letters":     {eight, list(4, 4, 4, 4, 4, 4, blot), list(0, 0, 1, 0, 0, 0), span(98, 99), lists(list(0, 1, 5, 6)), api.OK},
		"the greatest one":     {free(30, 29), list(blot, 0, 0, 0, 0, 0, 0), list(0, 0, 0, 0, 0, 190), span(400, 400), lists(list(0)), api.OK},
	} {
		can, e := letter.Can(x.c, x.word, x.gaps, x.length)
		if !slices.EqualFunc(can, x.want, slices.Equal[[]int]) || e != x.e {
			t.Error(name, can, e)
		}
	}
}
