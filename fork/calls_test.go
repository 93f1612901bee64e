package fork_test

import (
	"slices"
	"testing"

	"smalto/api"
	"smalto/fork"
)

// P3.2, with example 1.
func TestGoes(t *testing.T) {
	for name, x := range map[string]struct {
		g                given
		load             []int
		surely, possibly bool
	}{
		"example 1":               {example(), list(0, 1, 2), true, true},
		"example 1, 80":           {example(carries(80)), list(0, 1, 2), false, true},
		"the heaviest":            {example(carries(81)), list(0, 1, 2), true, true},
		"the lightest":            {example(carries(75)), list(0, 1, 2), false, true},
		"too heavy":               {example(carries(74)), list(0, 1, 2), false, false},
		"no heat for 2 and 3":     {example(), list(2, 3), false, false},
		"example 4":               {example(), list(0, 1, 3), true, true},
		"too high":                {example(), list(0, 4), false, false},
		"no signs":                {example(carries(1)), nil, true, true},
		"no signs at all":         {given{r: bars(1, 1, 0, 1, 0)}, nil, true, true},
		"one sign":                {example(), list(3), true, true},
		"one sign, too heavy":     {example(carries(39)), list(3), false, false},
		"one sign, perhaps":       {example(carries(20)), list(0), false, true},
		"as high as Near":         {given{bars(1, 9, 0, 9, 5), high(10, 15)}, list(0, 1), true, true},
		"as high as Near, turned": {given{bars(1, 9, 0, 9, 5), high(15, 10)}, list(0, 1), true, true},
		"higher":                  {given{bars(1, 9, 0, 9, 5), high(10, 16)}, list(0, 1), false, false},
		"higher, turned":          {given{bars(1, 9, 0, 9, 5), high(16, 10)}, list(0, 1), false, false},
		"higher, one between":     {given{bars(1, 9, 0, 9, 5), high(10, 14, 18)}, list(0, 1, 2), false, false},
		"no higher at all":        {given{bars(1, 9, 0, 9, 0), high(7, 7, 7)}, list(0, 1, 2), true, true},
		"a bit higher":            {given{bars(1, 9, 0, 9, 0), high(7, 7, 8)}, list(0, 1, 2), false, false},
		"the others do not count": {given{bars(1, 9, 0, 9, 0), high(7, 9, 7)}, list(0, 2), true, true},
		"one heat":                {given{bars(1, 9, 0, 9, 5), hot(span(3, 7), span(7, 9))}, list(0, 1), true, true},
		"no heat":                 {given{bars(1, 9, 0, 9, 5), hot(span(3, 7), span(8, 9))}, list(0, 1), false, false},
		"no heat, turned":         {given{bars(1, 9, 0, 9, 5), hot(span(8, 9), span(3, 7))}, list(0, 1), false, false},
		"no heat for three":       {given{bars(1, 9, 0, 9, 5), hot(span(3, 6), span(0, 9), span(7, 9))}, list(0, 1, 2), false, false},
		"the least heat":          {given{bars(1, 9, 0, 9, 5), hot(span(0, 0), span(0, 5))}, list(0, 1), true, true},
		"the greatest heat":       {given{bars(1, 9, 0, 9, 5), hot(span(1000, 1000), span(5, 1000))}, list(0, 1), true, true},
		"as long as the bar":      {given{bars(1, 9, 3, 9, 5), long(9)}, list(0), true, true},
		"longer than the bar":     {given{bars(3, 9, 3, 9, 5), long(10)}, list(0), false, false},
		"with a gap":              {given{bars(1, 9, 3, 9, 5), long(2, 4)}, list(0, 1), true, true},
		"with a gap, too long":    {given{bars(1, 9, 3, 9, 5), long(3, 4)}, list(0, 1), false, false},
		"with two gaps":           {given{bars(1, 9, 3, 9, 5), long(1, 1, 1)}, list(0, 1, 2), true, true},
		"two gaps, too long":      {given{bars(1, 9, 3, 9, 5), long(1, 1, 2)}, list(0, 1, 2), false, false},
		"a bar each":              {given{bars(3, 9, 3, 9, 5), long(9, 9, 9)}, list(0, 1, 2), true, true},
		"a bar too few":           {given{bars(2, 9, 3, 9, 5), long(9, 9, 9)}, list(0, 1, 2), false, false},
		"only one way":            {given{bars(2, 10, 0, 9, 5), long(4, 4, 3, 3, 3, 3)}, list(0, 1, 2, 3, 4, 5), true, true},
		"two and two":             {given{bars(2, 10, 0, 9, 5), long(4, 4, 4, 4, 2, 2)}, list(0, 1, 2, 3), true, true},
		"no way, though as long":  {given{bars(2, 10, 0, 9, 5), long(4, 4, 4, 7)}, list(0, 1, 2, 3), false, false},
		"all limits":              {given{bars(3, 200, 20, 2000, 100), slices.Repeat([]api.ForkSign{sign(90, 100, span(333, 333), span(0, 1000))}, 6)}, list(0, 1, 2, 3, 4, 5), true, true},
		"heavy, each":             {given{bars(3, 200, 0, 2000, 0), heavy(span(1, 500), span(1, 500), span(1, 500), span(1, 500), span(1, 1))}, list(0, 1, 2, 3, 4), false, true},
		"heavy, all but one":      {given{bars(3, 200, 0, 2000, 0), heavy(span(1, 500), span(1, 500), span(1, 500), span(1, 500), span(1, 1))}, list(0, 1, 2, 3), true, true},
		"too heavy, in all":       {given{bars(3, 200, 0, 2000, 0), heavy(span(500, 500), span(500, 500), span(500, 500), span(500, 500), span(1, 1))}, list(0, 1, 2, 3, 4), false, false},
		"perhaps, but too high":   {given{bars(1, 9, 0, 20, 1), []api.ForkSign{sign(1, 5, span(5, 25), span(0, 9)), sign(1, 7, span(1, 1), span(0, 9))}}, list(0, 1), false, false},
	} {
		surely, possibly, e := fork.Goes(x.g.r, x.g.l, x.load)
		if surely != x.surely || possibly != x.possibly || e != api.OK {
			t.Error(name, surely, possibly, e)
		}
	}
}

// P3.3, with examples 1 and 2.
func TestBars(t *testing.T) {
	for name, x := range map[string]struct {
		g    given
		load []int
		want []int
		e    api.Errno
	}{
		"example 1":          {example(), list(0, 1, 2), list(0, 0, 1), api.OK},
		"example 2":          {example(), list(0, 1, 2, 3), nil, api.ErrNone},
		"no signs":           {example(), nil, nil, api.OK},
		"no heat, too high":  {example(), list(2, 3, 4), list(0, 1, 0), api.OK},
		"too heavy":          {example(carries(1)), list(0, 1, 2), list(0, 0, 1), api.OK},
		"just the bar":       {given{bars(1, 9, 3, 9, 5), long(2, 4)}, list(0, 1), list(0, 0), api.OK},
		"a unit more":        {given{bars(1, 9, 3, 9, 5), long(3, 4)}, list(0, 1), nil, api.ErrNone},
		"a unit more, two":   {given{bars(2, 9, 3, 9, 5), long(3, 4)}, list(0, 1), list(0, 1), api.OK},
		"back to the first":  {given{bars(2, 9, 3, 9, 5), long(3, 4, 3)}, list(0, 1, 2), list(0, 1, 0), api.OK},
		"no gap":             {given{bars(1, 9, 0, 9, 5), long(3, 3, 3)}, list(0, 1, 2), list(0, 0, 0), api.OK},
		"longer than a bar":  {given{bars(3, 9, 0, 9, 5), long(1, 10)}, list(0, 1), nil, api.ErrNone},
		"not the next room":  {given{bars(2, 10, 0, 9, 5), long(4, 4, 3, 3, 3, 3)}, list(0, 1, 2, 3, 4, 5), list(0, 1, 0, 0, 1, 1), api.OK},
		"part of the signs":  {given{bars(2, 10, 0, 9, 5), long(9, 4, 9, 6, 10)}, list(1, 3, 4), list(0, 0, 1), api.OK},
		"three bars":         {given{bars(3, 10, 2, 9, 5), long(10, 4, 9, 4)}, list(0, 1, 2, 3), list(0, 1, 2, 1), api.OK},
		"the third one":      {given{bars(3, 10, 0, 9, 5), long(7, 6, 5, 5, 4, 3)}, list(0, 1, 2, 3, 4, 5), list(0, 1, 2, 2, 1, 0), api.OK},
		"all on one":         {given{bars(3, 200, 20, 9, 5), long(16, 16, 17, 17, 17, 17)}, list(0, 1, 2, 3, 4, 5), list(0, 0, 0, 0, 0, 0), api.OK},
		"all but one on one": {given{bars(3, 200, 20, 9, 5), long(16, 17, 17, 17, 17, 17)}, list(0, 1, 2, 3, 4, 5), list(0, 0, 0, 0, 0, 1), api.OK},
		"the longest":        {given{bars(3, 200, 20, 9, 5), long(200, 200, 200)}, list(0, 1, 2), list(0, 1, 2), api.OK},
	} {
		if on, e := fork.Bars(x.g.r, x.g.l, x.load); !slices.Equal(on, x.want) || e != x.e {
			t.Error(name, on, e)
		}
	}
}

// P3.4, with example 1.
func TestHeat(t *testing.T) {
	l := hot(span(3, 7), span(7, 9), span(0, 9), span(8, 8), span(0, 1000), span(8, 12))
	for name, x := range map[string]struct {
		g    given
		load []int
		want api.Span
		e    api.Errno
	}{
		"example 1":            {example(), list(0, 1, 2), span(820, 830), api.OK},
		"no signs":             {example(), nil, span(0, 1000), api.OK},
		"no signs at all":      {given{r: roomy()}, nil, span(0, 1000), api.OK},
		"one":                  {example(), list(3), span(840, 880), api.OK},
		"none":                 {example(), list(2, 3), span(0, 0), api.ErrNone},
		"one degree":           {given{roomy(), l}, list(0, 1), span(7, 7), api.OK},
		"within":               {given{roomy(), l}, list(2, 5), span(8, 9), api.OK},
		"one more, none":       {given{roomy(), l}, list(0, 1, 2, 3), span(0, 0), api.ErrNone},
		"just too hot":         {given{roomy(), l}, list(0, 3), span(0, 0), api.ErrNone},
		"all degrees":          {given{roomy(), l}, list(4), span(0, 1000), api.OK},
		"the ends of two":      {given{roomy(), l}, list(1, 4, 5), span(8, 9), api.OK},
		"at 0":                 {given{roomy(), hot(span(0, 0), span(0, 9))}, list(0, 1), span(0, 0), api.OK},
		"at 1000":              {given{roomy(), hot(span(1000, 1000), span(9, 1000))}, list(0, 1), span(1000, 1000), api.OK},
		"high, long and heavy": {given{bars(1, 1, 20, 1, 0), example().l}, list(0, 1, 2, 4), span(820, 830), api.OK},
	} {
		if heat, e := fork.Heat(x.g.r, x.g.l, x.load); heat != x.want || e != x.e {
			t.Error(name, heat, e)
		}
	}
}

// P3.5, with example 3.
func TestStill(t *testing.T) {
	weights := heavy(span(10, 12), span(1, 8), span(1, 9), span(8, 8), span(20, 20), span(21, 21))
	for name, x := range map[string]struct {
		g    given
		load []int
		want []int
	}{
		"example 3":            {example(), list(2), list(0, 1, 4)},
		"of 0":                 {example(), list(0), list(1, 2, 3)},
		"of 4":                 {example(), list(4), list(2)},
		"no signs yet":         {example(), nil, list(0, 1, 2, 3, 4)},
		"no signs at all":      {given{r: roomy()}, nil, nil},
		"the load does not go": {example(), list(2, 3), nil},
		"all are in it":        {given{roomy(), high(1, 1, 1)}, list(0, 1, 2), nil},
		"all others":           {given{roomy(), high(1, 1, 1, 1, 1, 1)}, list(1, 4), list(0, 2, 3, 5)},
		"surely, not perhaps":  {given{bars(1, 9, 0, 20, 0), weights}, list(0), list(1, 3)},
		"alone":                {given{bars(1, 9, 0, 20, 0), weights}, nil, list(0, 1, 2, 3, 4)},
		"each by itself":       {given{bars(1, 9, 0, 20, 0), weights}, list(1, 3), nil},
		"longer than a bar":    {given{bars(3, 9, 0, 20, 0), long(10, 9, 9, 9)}, list(1, 2), list(3)},
		"not one with such":    {given{bars(3, 9, 0, 20, 0), long(10, 9, 9, 9)}, list(0), nil},
		"before and behind":    {given{bars(1, 9, 0, 20, 2), high(5, 8, 6, 7, 5)}, list(2), list(0, 1, 3, 4)},
		"those between":        {given{bars(1, 9, 0, 20, 2), high(5, 8, 6, 7, 5)}, list(1, 2), list(3)},
	} {
		if still, e := fork.Still(x.g.r, x.g.l, x.load); !slices.Equal(still, x.want) || e != api.OK {
			t.Error(name, still, e)
		}
	}
}

// P3.6, with example 2.
func TestBar(t *testing.T) {
	third := heavy(span(30, 40), span(30, 40), span(10, 20), span(10, 21), span(1, 1), span(90, 101))
	alike := heavy(span(30, 40), span(30, 40), span(10, 21), span(10, 21), span(1, 1))
	for name, x := range map[string]struct {
		g    given
		load []int
		want []int
		e    api.Errno
	}{
		"example 2":            {example(), list(0, 1, 2, 3), list(2, 3), api.OK},
		"all of the example":   {example(), list(0, 1, 2, 3, 4), list(0, 4), api.OK},
		"it goes":              {example(), list(0, 1, 2), nil, api.ErrTwice},
		"no signs":             {example(), nil, nil, api.ErrTwice},
		"no signs at all":      {given{r: roomy()}, nil, nil, api.ErrTwice},
		"one alone":            {example(carries(39)), list(0, 1, 3), list(3), api.OK},
		"one, perhaps":         {example(carries(39)), list(2, 3), list(3), api.OK},
		"perhaps is no":        {given{bars(1, 9, 0, 100, 0), third}, list(0, 5), list(5), api.OK},
		"three":                {given{bars(1, 9, 0, 100, 0), third}, list(0, 1, 3), list(0, 1, 3), api.OK},
		"just not three":       {given{bars(1, 9, 0, 100, 0), third}, list(0, 1, 2), nil, api.ErrTwice},
		"three of four":        {given{bars(1, 9, 0, 100, 0), third}, list(0, 1, 2, 3), list(0, 1, 3), api.OK},
		"the first three":      {given{bars(1, 9, 0, 100, 0), alike}, list(0, 1, 2, 3, 4), list(0, 1, 2), api.OK},
		"fewer, though behind": {given{bars(1, 9, 0, 100, 0), third}, list(0, 1, 3, 5), list(5), api.OK},
		"the first two":        {given{bars(1, 9, 0, 20, 2), high(5, 8, 6, 9, 5)}, list(0, 1, 2, 3, 4), list(0, 1), api.OK},
		"not the first one":    {given{bars(1, 9, 0, 20, 2), high(7, 8, 6, 9, 5)}, list(0, 1, 2, 3, 4), list(1, 4), api.OK},
		"all six":              {given{bars(1, 5, 0, 20, 2), high(5, 5, 5, 5, 5, 5)}, list(0, 1, 2, 3, 4, 5), list(0, 1, 2, 3, 4, 5), api.OK},
		"all that there are":   {given{bars(1, 5, 0, 20, 2), high(5, 5, 5, 5, 5, 5)}, list(1, 2, 3, 4, 5), nil, api.ErrTwice},
		"others do not count":  {example(), list(0, 2, 3), list(2, 3), api.OK},
	} {
		if bar, e := fork.Bar(x.g.r, x.g.l, x.load); !slices.Equal(bar, x.want) || e != x.e {
			t.Error(name, bar, e)
		}
	}
}

// P3.7, P3.8, P3.9, with examples 4 and 5.
func TestLoads(t *testing.T) {
	path := hot(span(0, 10), span(5, 25), span(0, 4), span(20, 30))
	for name, x := range map[string]struct {
		g                  given
		loads, apart, dear []int
		e                  api.Errno
	}{
		"example 4":            {example(), list(0, 0, 1, 0, 1), list(0, 4), nil, api.OK},
		"example 5":            {dear(), list(0, 0, 1), list(0, 2), list(2), api.OK},
		"no signs":             {given{r: roomy()}, nil, nil, nil, api.OK},
		"one sign":             {given{roomy(), high(5)}, list(0), list(0), list(0), api.OK},
		"one that is too long": {given{bars(3, 9, 0, 9, 9), long(10)}, nil, list(0), nil, api.ErrNone},
		"one of three":         {given{bars(3, 9, 0, 9, 9), long(5, 10, 5)}, nil, list(0, 1), nil, api.ErrNone},
		"one, perhaps":         {given{bars(3, 9, 0, 9, 9), heavy(span(1, 1), span(5, 10))}, nil, list(0, 1), nil, api.ErrNone},
		"all of them":          {given{roomy(), high(5, 5, 5, 5, 5, 5)}, list(0, 0, 0, 0, 0, 0), list(0), nil, api.OK},
		"none of them":         {given{bars(1, 5, 0, 9, 0), long(5, 5, 5, 5, 5, 5)}, list(0, 1, 2, 3, 4, 5), list(0, 1, 2, 3, 4, 5), list(0, 1, 2, 3, 4, 5), api.OK},
		"two of them":          {given{bars(1, 5, 0, 9, 0), long(3, 3)}, list(0, 1), list(0, 1), list(0, 1), api.OK},
		"the next one waits":   {given{roomy(), path}, list(0, 1, 0, 1), list(0, 3), nil, api.OK},
		"three for two":        {given{bars(1, 9, 0, 100, 0), heavy(span(40, 40), span(40, 40), span(40, 40))}, list(0, 0, 1), list(0), list(0, 1, 2), api.OK},
		"three, just":          {given{bars(1, 9, 0, 100, 0), heavy(span(30, 40), span(30, 30), span(30, 30))}, list(0, 0, 0), list(0), nil, api.OK},
		"three, perhaps":       {given{bars(1, 9, 0, 100, 0), heavy(span(30, 41), span(30, 30), span(30, 30))}, list(0, 0, 1), list(0), list(0, 1, 2), api.OK},
		"six in pairs":         {given{bars(1, 10, 0, 100, 0), long(4, 6, 5, 5, 7, 3)}, list(0, 0, 1, 1, 2, 2), list(1, 2, 4), nil, api.OK},
		"a later one joins":    {given{bars(1, 10, 0, 100, 0), long(7, 4, 6, 3)}, list(0, 1, 1, 0), list(0, 1), nil, api.OK},
		"two heights":          {given{bars(3, 9, 0, 100, 0), high(5, 9, 5, 9, 5)}, list(0, 1, 0, 1, 0), list(0, 1), nil, api.OK},
		"a height of its own":  {given{bars(3, 9, 0, 100, 0), high(5, 9, 5, 7, 5)}, list(0, 1, 0, 2, 0), list(0, 1, 3), list(1, 3), api.OK},
		"more than apart":      {given{bars(1, 10, 0, 100, 0), long(4, 4, 4, 4, 4)}, list(0, 0, 1, 1, 2), list(0), list(0, 1, 2, 3, 4), api.OK},
	} {
		loads, e := fork.Loads(x.g.r, x.g.l)
		apart, f := fork.Apart(x.g.r, x.g.l)
		dear, h := fork.Dear(x.g.r, x.g.l)
		if !slices.Equal(loads, x.loads) || e != x.e {
			t.Error(name, loads, e)
		}
		if !slices.Equal(apart, x.apart) || f != api.OK {
			t.Error(name, apart, f)
		}
		if !slices.Equal(dear, x.dear) || h != x.e {
			t.Error(name, dear, h)
		}
	}
}

// P3.10, with example 6.
func TestPut(t *testing.T) {
	six := given{bars(1, 5, 0, 9, 0), long(5, 5, 5, 5, 5, 5)}
	for name, x := range map[string]struct {
		g       given
		written []int
		to      []int
		moved   int
		e       api.Errno
	}{
		"example 6":            {example(), list(0, 0, 0, 1, 0), list(1, 1, 0, 1, 0), 2, api.OK},
		"no signs":             {given{r: roomy()}, nil, nil, 0, api.OK},
		"as it is":             {example(), list(0, 0, 1, 0, 1), list(0, 0, 1, 0, 1), 0, api.OK},
		"as it is, named anew": {example(), list(5, 5, 3, 5, 3), list(5, 5, 3, 5, 3), 0, api.OK},
		"more than the fewest": {example(), list(4, 1, 0, 3, 2), list(4, 1, 0, 3, 2), 0, api.OK},
		"none is left":         {example(), list(0, 0, 0, 0, 0), nil, 0, api.ErrNone},
		"one is left":          {example(), list(1, 1, 1, 1, 1), list(1, 1, 0, 1, 0), 2, api.OK},
		"two are left":         {example(), list(2, 2, 2, 2, 2), list(2, 2, 0, 2, 0), 2, api.OK},
		"one moves":            {example(), list(0, 0, 0, 0, 1), list(0, 0, 1, 0, 1), 1, api.OK},
		"the smallest":         {given{bars(1, 10, 0, 100, 0), long(4, 4, 4)}, list(1, 1, 1), list(0, 1, 1), 1, api.OK},
		"to a free one":        {given{bars(1, 10, 0, 100, 0), long(4, 4, 4)}, list(2, 2, 2), list(0, 2, 2), 1, api.OK},
		"down or up":           {given{bars(1, 10, 0, 100, 0), long(4, 4, 4, 9)}, list(0, 0, 0, 2), list(0, 0, 1, 2), 1, api.OK},
		"no number is left":    {given{bars(1, 10, 0, 100, 0), long(4, 4, 4)}, list(0, 0, 0), nil, 0, api.ErrNone},
		"one is not needed":    {given{roomy(), high(5, 5)}, list(0, 5), list(0, 5), 0, api.OK},
		"one for one":          {given{roomy(), high(5)}, list(5), list(5), 0, api.OK},
		"too long":             {given{bars(3, 9, 0, 9, 9), long(5, 10, 5)}, list(0, 1, 2), nil, 0, api.ErrNone},
		"six":                  {six, list(0, 1, 2, 3, 4, 5), list(0, 1, 2, 3, 4, 5), 0, api.OK},
		"six, turned":          {six, list(5, 4, 3, 2, 1, 0), list(5, 4, 3, 2, 1, 0), 0, api.OK},
		"six, five at once":    {six, list(5, 5, 5, 5, 5, 5), list(0, 1, 2, 3, 4, 5), 5, api.OK},
		"six for five":         {six, list(0, 1, 2, 3, 4, 4), nil, 0, api.ErrNone},
		"six, two at once":     {six, list(5, 1, 2, 3, 4, 4), list(5, 1, 2, 3, 0, 4), 1, api.OK},
		"fewer, though later":  {given{bars(1, 10, 0, 100, 0), long(9, 4, 4, 9)}, list(1, 1, 1, 0), nil, 0, api.ErrNone},
		"one of the other two": {given{bars(1, 10, 0, 100, 0), long(9, 4, 4, 9)}, list(1, 1, 2, 0), list(1, 2, 2, 0), 1, api.OK},
	} {
		to, moved, e := fork.Put(x.g.r, x.g.l, x.written)
		if !slices.Equal(to, x.to) || moved != x.moved || e != x.e {
			t.Error(name, to, moved, e)
		}
	}
}
