package pickle_test

import (
	"slices"
	"testing"

	"smalto/api"
	"smalto/pickle"
)

// P6.2, with example 1.
func TestStrengths(t *testing.T) {
	weak := bath(3, 8, plate(0, 0, 5, 0), plate(0, 0, 1, 0), plate(0, 0, 10, 0), plate(0, 0, 0, 0))
	strong := bath(40, 40, slices.Repeat([]api.PicklePlate{plate(0, 600, 10, 300)}, 5)...)
	for name, x := range map[string]struct {
		b     api.PickleBath
		order []int
		want  []api.Span
	}{
		"example 1":               {example(), list(0, 1), spans(span(10, 12), span(9, 11), span(7, 9))},
		"no plate":                {example(), nil, spans(span(10, 12))},
		"no plates at all":        {bath(1, 40), nil, spans(span(1, 40))},
		"in another order":        {example(), list(1, 0, 2), spans(span(10, 12), span(8, 10), span(7, 9), span(6, 8))},
		"nothing taken":           {weak, list(3), spans(span(3, 8), span(3, 8))},
		"the weakest below 0":     {weak, list(0), spans(span(3, 8), span(0, 3))},
		"one more":                {weak, list(0, 1), spans(span(3, 8), span(0, 3), span(0, 2))},
		"one before":              {weak, list(1, 0), spans(span(3, 8), span(2, 7), span(0, 2))},
		"all below 0":             {weak, list(2, 0), spans(span(3, 8), span(0, 0), span(0, 0))},
		"just 0":                  {bath(5, 5, plate(0, 0, 5, 0)), list(0), spans(span(5, 5), span(0, 0))},
		"the strongest, the most": {strong, list(4, 2, 0, 1, 3), spans(span(40, 40), span(30, 30), span(20, 20), span(10, 10), span(0, 0), span(0, 0))},
	} {
		if got, e := pickle.Strengths(x.b, x.order); !slices.Equal(got, x.want) || e != api.OK {
			t.Error(name, got, e)
		}
	}
}

// P6.3, with example 2.
func TestOut(t *testing.T) {
	one := bath(10, 10, plate(20, 20, 0, 5))
	var (
		d, g, x    = ways(dirty), ways(good), ways(eaten)
		dg, gx, dx = ways(dirty, good), ways(good, eaten), ways(dirty, eaten)
		dgx        = ways(dirty, good, eaten)
	)
	for name, c := range map[string]struct {
		b    api.PickleBath
		l    []api.PickleStep
		want [][]api.PickleHow
	}{
		"example 2":             {example(), steps(step(0, 4), step(1, 7)), [][]api.PickleHow{dg, g}},
		"no steps":              {example(), nil, nil},
		"the other way round":   {example(), steps(step(1, 7), step(0, 4)), [][]api.PickleHow{g, dg}},
		"less than its rust":    {one, steps(step(0, 1)), [][]api.PickleHow{d}},
		"just its rust":         {one, steps(step(0, 2)), [][]api.PickleHow{g}},
		"more than all":         {one, steps(step(0, 3)), [][]api.PickleHow{x}},
		"just all":              {bath(10, 10, plate(20, 20, 0, 10)), steps(step(0, 3)), [][]api.PickleHow{g}},
		"one more than all":     {bath(10, 10, plate(20, 20, 0, 9)), steps(step(0, 3)), [][]api.PickleHow{x}},
		"one more rust":         {bath(10, 10, plate(21, 21, 0, 9)), steps(step(0, 2)), [][]api.PickleHow{d}},
		"either, by its rust":   {bath(10, 10, plate(20, 21, 0, 9)), steps(step(0, 2)), [][]api.PickleHow{dg}},
		"eaten, by its rust":    {bath(10, 10, plate(20, 21, 0, 9)), steps(step(0, 3)), [][]api.PickleHow{gx}},
		"dirty or eaten":        {bath(10, 11, plate(21, 21, 0, 0)), steps(step(0, 2)), [][]api.PickleHow{dx}},
		"all three":             {bath(10, 12, plate(11, 11, 0, 0)), steps(step(0, 1)), [][]api.PickleHow{dgx}},
		"all three, by rust":    {bath(11, 11, plate(10, 12, 0, 0)), steps(step(0, 1)), [][]api.PickleHow{dgx}},
		"no acid, no rust":      {bath(1, 1, plate(0, 0, 1, 0), plate(0, 0, 0, 0)), steps(step(0, 1), step(1, 24)), [][]api.PickleHow{x, g}},
		"no acid, perhaps rust": {bath(1, 1, plate(0, 0, 10, 9), plate(0, 1, 0, 0)), steps(step(0, 1), step(1, 24)), [][]api.PickleHow{g, dg}},
		"the most hours":        {bath(40, 40, plate(600, 600, 0, 300)), steps(step(0, 24)), [][]api.PickleHow{x}},
		"not so many":           {bath(40, 40, plate(600, 600, 0, 300)), steps(step(0, 22)), [][]api.PickleHow{g}},
		"the acid of the first": {bath(10, 12, plate(40, 44, 1, 30), plate(50, 60, 2, 40)), steps(step(1, 5)), [][]api.PickleHow{dg}},
	} {
		if got, e := pickle.Out(c.b, c.l); !slices.EqualFunc(got, c.want, slices.Equal) || e != api.OK {
			t.Error(name, got, e)
		}
	}
}

// P6.4, with example 3.
func TestHours(t *testing.T) {
	for name, x := range map[string]struct {
		b     api.PickleBath
		l     []api.PickleStep
		plate int
		want  api.Span
		e     api.Errno
	}{
		"example 3, 0":             {example(), nil, 0, span(5, 5), api.OK},
		"example 3, 1":             {example(), steps(step(0, 5)), 1, span(7, 8), api.OK},
		"example 3, 2":             {example(), nil, 2, span(3, 3), api.OK},
		"hours before do not tell": {example(), steps(step(0, 24)), 1, span(7, 8), api.OK},
		"after two":                {example(), steps(step(1, 1), step(0, 1)), 2, span(4, 4), api.OK},
		"all that there are":       {bath(1, 1, plate(0, 0, 0, 24)), nil, 0, span(1, 24), api.OK},
		"all but the last one":     {bath(1, 1, plate(0, 0, 0, 23)), nil, 0, span(1, 23), api.OK},
		"just the last one":        {bath(1, 1, plate(24, 24, 0, 300)), nil, 0, span(24, 24), api.OK},
		"too much rust":            {bath(1, 1, plate(25, 25, 0, 300)), nil, 0, span(0, 0), api.ErrState},
		"perhaps too much":         {bath(1, 1, plate(0, 25, 0, 300)), nil, 0, span(0, 0), api.ErrState},
		"perhaps too weak":         {bath(1, 40, plate(25, 25, 0, 300)), nil, 0, span(0, 0), api.ErrState},
		"eaten at once":            {bath(40, 40, plate(0, 0, 0, 39)), nil, 0, span(0, 0), api.ErrState},
		"just not":                 {bath(40, 40, plate(0, 0, 0, 40)), nil, 0, span(1, 1), api.OK},
		"between two hours":        {bath(10, 10, plate(15, 15, 0, 4)), nil, 0, span(0, 0), api.ErrState},
		"just at an hour":          {bath(10, 10, plate(15, 15, 0, 5)), nil, 0, span(2, 2), api.OK},
		"dirty or eaten":           {bath(10, 12, plate(20, 20, 0, 3)), nil, 0, span(0, 0), api.ErrState},
		"no acid, no rust":         {bath(2, 2, plate(0, 0, 2, 0), plate(0, 0, 0, 0)), steps(step(0, 1)), 1, span(1, 24), api.OK},
		"no acid, perhaps rust":    {bath(2, 2, plate(0, 0, 2, 0), plate(0, 1, 0, 300)), steps(step(0, 1)), 1, span(0, 0), api.ErrState},
		"perhaps acid, no rust":    {bath(1, 3, plate(0, 0, 2, 0), plate(0, 0, 0, 5)), steps(step(0, 1)), 1, span(1, 5), api.OK},
		"the most of all":          {bath(40, 40, plate(600, 600, 10, 300)), nil, 0, span(15, 22), api.OK},
	} {
		if got, e := pickle.Hours(x.b, x.l, x.plate); got != x.want || e != x.e {
			t.Error(name, got, e)
		}
	}
}

// P6.5, with example 4.
func TestOrder(t *testing.T) {
	for name, x := range map[string]struct {
		b    api.PickleBath
		want []api.PickleStep
		e    api.Errno
	}{
		"example 4":               {example(), steps(step(0, 5), step(1, 7), step(2, 4)), api.OK},
		"two take too much":       {hungry(), nil, api.ErrState},
		"no plates":               {bath(10, 12), nil, api.OK},
		"one plate":               {bath(1, 1, plate(3, 3, 0, 9)), steps(step(0, 3)), api.OK},
		"one that cannot be":      {bath(1, 1, plate(25, 25, 0, 9)), nil, api.ErrState},
		"one of two cannot be":    {bath(1, 1, plate(3, 3, 0, 9), plate(25, 25, 0, 9)), nil, api.ErrState},
		"the later one first":     {bath(10, 10, plate(10, 10, 5, 9), plate(20, 20, 0, 9)), steps(step(1, 2), step(0, 1)), api.OK},
		"equal hours":             {bath(10, 10, plate(10, 10, 0, 9), plate(20, 20, 0, 9)), steps(step(0, 1), step(1, 2)), api.OK},
		"the only way":            {bath(10, 10, plate(5, 5, 0, 1), plate(5, 5, 5, 5)), steps(step(1, 1), step(0, 1)), api.OK},
		"each alone, not both":    {bath(10, 10, plate(10, 10, 10, 0), plate(10, 10, 10, 0)), nil, api.ErrState},
		"without rust after all":  {bath(10, 10, plate(0, 0, 0, 0), plate(10, 10, 10, 0)), steps(step(1, 1), step(0, 1)), api.OK},
		"the middle one first":    {bath(10, 10, plate(8, 8, 2, 0), plate(10, 10, 2, 0), plate(6, 6, 0, 0)), steps(step(1, 1), step(0, 1), step(2, 1)), api.OK},
		"five, of the limits":     {bath(40, 40, slices.Repeat([]api.PicklePlate{plate(600, 600, 0, 300)}, 5)...), steps(step(0, 15), step(1, 15), step(2, 15), step(3, 15), step(4, 15)), api.OK},
		"five, in just one order": {bath(5, 5, plate(1, 1, 1, 0), plate(2, 2, 1, 0), plate(3, 3, 1, 0), plate(4, 4, 1, 0), plate(5, 5, 1, 0)), steps(step(4, 1), step(3, 1), step(2, 1), step(1, 1), step(0, 1)), api.OK},
	} {
		if got, e := pickle.Order(x.b); !slices.Equal(got, x.want) || e != x.e {
			t.Error(name, got, e)
		}
	}
}

// P6.6, with example 4.
func TestFillings(t *testing.T) {
	all := plate(10, 10, 10, 0)
	for name, x := range map[string]struct {
		b    api.PickleBath
		want []int
		e    api.Errno
	}{
		"example 4":                {example(), list(0, 0, 0), api.OK},
		"two take too much":        {hungry(), list(0, 1, 0), api.OK},
		"no plates":                {bath(10, 12), nil, api.OK},
		"one plate":                {bath(1, 1, plate(3, 3, 0, 9)), list(0), api.OK},
		"one that cannot be":       {bath(1, 1, plate(25, 25, 0, 9)), nil, api.ErrState},
		"one of two cannot be":     {bath(1, 1, plate(3, 3, 0, 9), plate(25, 25, 0, 9)), nil, api.ErrState},
		"one for each":             {bath(10, 10, all, all, all, all, all), list(0, 1, 2, 3, 4), api.OK},
		"two of each":              {bath(10, 10, all, all, plate(0, 0, 0, 0), plate(0, 0, 0, 0)), list(0, 1, 0, 0), api.OK},
		"not alone, but together":  {bath(10, 10, plate(5, 5, 0, 1), plate(5, 5, 5, 5)), list(0, 0), api.OK},
		"not the first two":        {bath(10, 10, plate(5, 5, 1, 1), plate(5, 5, 1, 1), plate(5, 5, 5, 5), plate(5, 5, 5, 5)), list(0, 1, 0, 1), api.OK},
		"in the last order of all": {bath(10, 10, plate(5, 5, 5, 1), plate(5, 5, 5, 5), plate(10, 10, 0, 0)), list(0, 0, 0), api.OK},
		"one too many for one":     {bath(10, 10, plate(5, 5, 1, 0), plate(5, 5, 5, 5), plate(5, 5, 1, 0)), nil, api.ErrState},
		"as many at first as can":  {bath(10, 10, plate(8, 8, 2, 2), plate(8, 8, 2, 2), plate(8, 8, 2, 2)), list(0, 0, 1), api.OK},
	} {
		if got, e := pickle.Fillings(x.b); !slices.Equal(got, x.want) || e != x.e {
			t.Error(name, got, e)
		}
	}
}

// P6.7, with example 5.
func TestMix(t *testing.T) {
	for name, x := range map[string]struct {
		l    []api.PickleAcid
		want api.Span
	}{
		"example 5":          {acids(acid(10, 30, 30), acid(20, 12, 15)), span(18, 20)},
		"one acid":           {acids(acid(7, 3, 5)), span(3, 5)},
		"an ounce":           {acids(acid(1, 40, 40)), span(40, 40)},
		"water":              {acids(acid(200, 0, 0)), span(0, 0)},
		"half":               {acids(acid(1, 1, 1), acid(1, 2, 2)), span(1, 2)},
		"a third":            {acids(acid(2, 1, 1), acid(1, 2, 2)), span(1, 2)},
		"just":               {acids(acid(2, 1, 1), acid(2, 3, 3)), span(2, 2)},
		"with water":         {acids(acid(1, 1, 1), acid(200, 0, 0)), span(0, 1)},
		"not rounded before": {acids(acid(3, 1, 1), acid(3, 1, 1), acid(3, 4, 4)), span(2, 2)},
		"five of the most":   {slices.Repeat(acids(acid(200, 0, 40)), 5), span(0, 40)},
		"five":               {acids(acid(1, 1, 2), acid(2, 2, 3), acid(3, 3, 4), acid(4, 4, 5), acid(5, 5, 6)), span(3, 5)},
	} {
		if got, e := pickle.Mix(x.l); got != x.want || e != api.OK {
			t.Error(name, got, e)
		}
	}
}

// P6.8, with example 5.
func TestWater(t *testing.T) {
	ten := acids(acid(10, 30, 30))
	for name, x := range map[string]struct {
		l          []api.PickleAcid
		want, till api.Span
		e          api.Errno
	}{
		"example 5":           {ten, span(10, 12), span(15, 20), api.OK},
		"just one strength":   {ten, span(10, 10), span(20, 20), api.OK},
		"no water":            {ten, span(30, 30), span(0, 0), api.OK},
		"none, or some":       {ten, span(20, 40), span(0, 5), api.OK},
		"stronger":            {ten, span(31, 40), span(0, 0), api.ErrNone},
		"weaker than can be":  {ten, span(0, 0), span(0, 0), api.ErrNone},
		"as weak as can be":   {ten, span(0, 1), span(290, 500), api.OK},
		"whatever it is":      {ten, span(0, 40), span(0, 500), api.OK},
		"water":               {acids(acid(1, 0, 0)), span(0, 0), span(0, 500), api.OK},
		"not sure enough":     {acids(acid(10, 10, 30)), span(10, 12), span(0, 0), api.ErrNone},
		"just sure enough":    {acids(acid(10, 24, 28)), span(12, 14), span(10, 10), api.OK},
		"rounded away":        {acids(acid(3, 10, 10)), span(7, 7), span(0, 0), api.ErrNone},
		"with both sides":     {acids(acid(3, 10, 10)), span(7, 8), span(1, 1), api.OK},
		"the most, not less":  {acids(acid(125, 40, 40)), span(0, 8), span(500, 500), api.OK},
		"an ounce too many":   {acids(acid(126, 40, 40)), span(0, 8), span(0, 0), api.ErrNone},
		"of two":              {acids(acid(10, 20, 20), acid(10, 10, 10)), span(10, 10), span(10, 10), api.OK},
		"of five of the most": {slices.Repeat(acids(acid(200, 39, 40)), 5), span(26, 27), span(482, 500), api.OK},
	} {
		if got, e := pickle.Water(x.l, x.want); got != x.till || e != x.e {
			t.Error(name, got, e)
		}
	}
}

// P6.9, with example 6.
func TestWas(t *testing.T) {
	same := bath(10, 12, plate(10, 40, 2, 3), plate(10, 40, 2, 3), plate(0, 600, 2, 3))
	for name, x := range map[string]struct {
		b        api.PickleBath
		l        []api.PickleSeen
		strength api.Span
		rusts    []api.Span
		e        api.Errno
	}{
		"example 6":              {example(), sights(seen(0, 4, dirty)), span(10, 10), spans(span(41, 44), span(50, 60), span(20, 22)), api.OK},
		"nothing":                {example(), nil, span(10, 12), spans(span(40, 44), span(50, 60), span(20, 22)), api.OK},
		"nothing of nothing":     {bath(1, 40), nil, span(1, 40), nil, api.OK},
		"cannot be":              {example(), sights(seen(0, 5, dirty)), span(0, 0), nil, api.ErrState},
		"dirty":                  {same, sights(seen(0, 2, dirty)), span(10, 12), spans(span(21, 40), span(10, 40), span(0, 600)), api.OK},
		"good":                   {same, sights(seen(0, 2, good)), span(10, 12), spans(span(17, 24), span(10, 40), span(0, 600)), api.OK},
		"eaten":                  {same, sights(seen(0, 2, eaten)), span(10, 12), spans(span(10, 20), span(10, 40), span(0, 600)), api.OK},
		"two, one cannot be":     {same, sights(seen(0, 1, eaten), seen(1, 4, dirty)), span(0, 0), nil, api.ErrState},
		"good at the end":        {same, sights(seen(0, 1, good)), span(10, 12), spans(span(10, 12), span(10, 40), span(0, 600)), api.OK},
		"two, of one strength":   {bath(10, 12, plate(11, 11, 1, 0), plate(20, 22, 0, 0)), sights(seen(0, 1, good), seen(1, 2, good)), span(11, 11), spans(span(11, 11), span(20, 20)), api.OK},
		"two, of none":           {bath(10, 12, plate(11, 11, 1, 0), plate(21, 21, 0, 0)), sights(seen(0, 1, good), seen(1, 2, good)), span(0, 0), nil, api.ErrState},
		"the second one tells":   {bath(10, 12, plate(10, 12, 1, 0), plate(22, 22, 0, 0)), sights(seen(0, 1, good), seen(1, 2, good)), span(12, 12), spans(span(12, 12), span(22, 22)), api.OK},
		"with a gap between":     {bath(10, 12, plate(10, 10, 0, 0), plate(0, 24, 0, 0)), sights(seen(0, 1, eaten), seen(1, 2, good)), span(11, 12), spans(span(10, 10), span(22, 24)), api.OK},
		"no acid":                {bath(1, 3, plate(0, 0, 2, 0), plate(0, 5, 0, 0)), sights(seen(0, 1, eaten), seen(1, 1, good)), span(1, 3), spans(span(0, 0), span(0, 1)), api.OK},
		"just its rust":          {bath(10, 10, plate(10, 10, 0, 0)), sights(seen(0, 1, good)), span(10, 10), spans(span(10, 10)), api.OK},
		"not dirty at its rust":  {bath(10, 10, plate(10, 10, 0, 0)), sights(seen(0, 1, dirty)), span(0, 0), nil, api.ErrState},
		"not eaten at its end":   {bath(10, 10, plate(8, 8, 0, 2)), sights(seen(0, 1, eaten)), span(0, 0), nil, api.ErrState},
		"eaten behind its end":   {bath(10, 10, plate(0, 8, 0, 2)), sights(seen(0, 1, eaten)), span(10, 10), spans(span(0, 7)), api.OK},
		"the other way round":    {example(), sights(seen(1, 7, good), seen(0, 5, dirty)), span(10, 10), spans(span(41, 44), span(50, 60), span(20, 22)), api.OK},
		"of the greatest limits": {bath(1, 40, plate(0, 600, 10, 300)), sights(seen(0, 24, eaten)), span(13, 40), spans(span(0, 600)), api.OK},
	} {
		strength, rusts, e := pickle.Was(x.b, x.l)
		if strength != x.strength || !slices.Equal(rusts, x.rusts) || e != x.e {
			t.Error(name, strength, rusts, e)
		}
	}
}

// P6.10, with example 7.
func TestWrong(t *testing.T) {
	for name, x := range map[string]struct {
		b    api.PickleBath
		l    []api.PickleSeen
		want []int
		e    api.Errno
	}{
		"example 7":               {example(), sights(seen(0, 24, good), seen(2, 3, good)), list(0), api.OK},
		"nothing":                 {example(), nil, nil, api.ErrTwice},
		"of no plates":            {bath(1, 1), nil, nil, api.ErrTwice},
		"none is":                 {example(), sights(seen(0, 4, dirty)), nil, api.ErrTwice},
		"the other way round":     {example(), sights(seen(2, 3, good), seen(0, 24, good)), list(1), api.OK},
		"by their numbers":        {example(), sights(seen(2, 24, good), seen(1, 24, dirty), seen(0, 1, dirty)), list(0, 1), api.OK},
		"all":                     {example(), sights(seen(2, 24, good), seen(1, 24, dirty), seen(0, 1, good)), list(0, 1, 2), api.OK},
		"one that is never so":    {bath(10, 12, plate(11, 11, 1, 0), plate(21, 21, 0, 0)), sights(seen(0, 1, good), seen(1, 2, good)), list(1), api.OK},
		"the first one of two":    {bath(10, 12, plate(11, 11, 1, 0), plate(22, 22, 0, 0)), sights(seen(0, 1, good), seen(1, 2, good)), list(0), api.OK},
		"the one against two":     {bath(10, 12, plate(11, 11, 0, 0), plate(22, 22, 0, 0), plate(12, 12, 0, 0)), sights(seen(0, 1, good), seen(1, 2, good), seen(2, 1, good)), list(2), api.OK},
		"the second against two":  {bath(10, 12, plate(11, 11, 0, 0), plate(24, 24, 0, 0), plate(33, 33, 0, 0)), sights(seen(0, 1, good), seen(1, 2, good), seen(2, 3, good)), list(1), api.OK},
		"the wrong one was there": {bath(10, 10, plate(5, 5, 4, 0), plate(6, 6, 0, 0)), sights(seen(0, 1, good), seen(1, 1, good)), list(0), api.OK},
		"it weakens the acid":     {bath(10, 10, plate(5, 5, 4, 0), plate(10, 10, 0, 0)), sights(seen(0, 1, eaten), seen(1, 1, good)), list(1), api.OK},
	} {
		if got, e := pickle.Wrong(x.b, x.l); !slices.Equal(got, x.want) || e != x.e {
			t.Error(name, got, e)
		}
	}
}

// P6.11, with example 8.
func TestMissing(t *testing.T) {
	for name, x := range map[string]struct {
		full api.Span
		used []api.Span
		left api.Span
		want api.Span
		e    api.Errno
	}{
		"example 8":          {span(100, 100), spans(span(20, 25), span(30, 30)), span(40, 44), span(1, 10), api.OK},
		"no use":             {span(90, 100), nil, span(40, 44), span(46, 60), api.OK},
		"all is left":        {span(100, 100), nil, span(100, 100), span(0, 0), api.OK},
		"nothing is left":    {span(100, 100), nil, span(0, 0), span(100, 100), api.OK},
		"an empty one":       {span(0, 0), nil, span(0, 0), span(0, 0), api.OK},
		"at least none":      {span(90, 100), spans(span(10, 20)), span(70, 85), span(0, 20), api.OK},
		"just none at most":  {span(90, 100), spans(span(10, 20)), span(90, 95), span(0, 0), api.OK},
		"more is left":       {span(90, 100), spans(span(10, 20)), span(91, 95), span(0, 0), api.ErrState},
		"more was used":      {span(90, 100), spans(span(60, 70), span(41, 50)), span(0, 10), span(0, 0), api.ErrState},
		"just all was used":  {span(90, 100), spans(span(60, 70), span(40, 50)), span(0, 10), span(0, 0), api.OK},
		"all may be missing": {span(0, 5000), spans(span(0, 5000)), span(0, 5000), span(0, 5000), api.OK},
		"ten uses":           {span(5000, 5000), slices.Repeat(spans(span(1, 2)), 10), span(0, 0), span(4980, 4990), api.OK},
		"ten of the most":    {span(5000, 5000), slices.Repeat(spans(span(5000, 5000)), 10), span(5000, 5000), span(0, 0), api.ErrState},
		"ten of any":         {span(5000, 5000), slices.Repeat(spans(span(0, 5000)), 10), span(0, 5000), span(0, 5000), api.OK},
	} {
		if got, e := pickle.Missing(x.full, x.used, x.left); got != x.want || e != x.e {
			t.Error(name, got, e)
		}
	}
}
