package sheet_test

import (
	"slices"
	"testing"

	"smalto/api"
	"smalto/sheet"
)

// P5.2, with example 1.
func TestBlanks(t *testing.T) {
	for name, x := range map[string]struct {
		l    []api.SheetPlate
		want []api.SheetSize
	}{
		"example 1":           {four(), sizes(size(10, 6), size(9, 5), size(10, 3), size(18, 10))},
		"no plate":            {nil, nil},
		"no rim":              {plates(plate(3, 4, 0)), sizes(size(3, 4))},
		"a wide rim":          {plates(plate(3, 4, 5)), sizes(size(13, 14))},
		"larger than a sheet": {plates(grain(30, 30, 5), plate(30, 1, 5)), sizes(size(40, 40), size(40, 11))},
		"two that are equal":  {plates(plate(2, 1, 1), plate(2, 1, 1)), sizes(size(4, 3), size(4, 3))},
	} {
		if got, e := sheet.Blanks(example(), x.l); !slices.Equal(got, x.want) || e != api.OK {
			t.Error(name, got, e)
		}
	}
}

// P5.3, with example 2.
func TestComes(t *testing.T) {
	for name, x := range map[string]struct {
		r    api.SheetRules
		l    []api.SheetPlate
		set  []int
		want bool
	}{
		"example 2":               {example(), four(), list(0, 1, 2), true},
		"example 2, two":          {example(), four(), list(0, 3), false},
		"no plates of some":       {example(), four(), nil, true},
		"no plates":               {example(), nil, nil, true},
		"one plate":               {example(), four(), list(3), true},
		"all":                     {example(), four(), list(0, 1, 2, 3), false},
		"just the sheet":          {rules(5, 4, 3), plates(grain(5, 4, 0)), list(0), true},
		"just the sheet, turned":  {rules(5, 4, 3), plates(plate(4, 5, 0)), list(0), true},
		"turned, with a Grain":    {rules(5, 4, 3), plates(grain(4, 5, 0)), list(0), false},
		"an inch longer":          {rules(5, 4, 3), plates(plate(6, 4, 0)), list(0), false},
		"an inch higher":          {rules(5, 4, 3), plates(plate(5, 5, 0)), list(0), false},
		"with its rim":            {rules(5, 4, 3), plates(grain(3, 2, 1)), list(0), true},
		"with a wider rim":        {rules(5, 4, 3), plates(grain(3, 2, 2)), list(0), false},
		"two, no kerf":            {rules(6, 4, 0), plates(grain(3, 4, 0), grain(3, 4, 0)), list(0, 1), true},
		"two, a kerf":             {rules(6, 4, 1), plates(grain(3, 4, 0), grain(3, 4, 0)), list(0, 1), false},
		"two, room for the kerf":  {rules(7, 4, 1), plates(grain(3, 4, 0), grain(3, 4, 0)), list(0, 1), true},
		"two, above each other":   {rules(4, 7, 1), plates(grain(4, 3, 0), grain(4, 3, 0)), list(0, 1), true},
		"two, one turned":         {rules(7, 4, 1), plates(grain(3, 4, 0), plate(4, 3, 0)), list(0, 1), true},
		"two, one not turned":     {rules(7, 4, 1), plates(grain(3, 4, 0), grain(4, 3, 0)), list(0, 1), false},
		"less left than a kerf":   {rules(7, 4, 2), plates(grain(6, 4, 0)), list(0), true},
		"round a hole":            {rules(5, 5, 0), plates(grain(3, 2, 0), grain(2, 3, 0), grain(3, 2, 0), grain(2, 3, 0)), list(0, 1, 2, 3), false},
		"round a hole, three":     {rules(5, 5, 0), plates(grain(3, 2, 0), grain(2, 3, 0), grain(3, 2, 0), grain(2, 3, 0)), list(0, 1, 2), true},
		"five side by side":       {rules(9, 1, 1), plates(plate(1, 1, 0), plate(1, 1, 0), plate(1, 1, 0), plate(1, 1, 0), plate(1, 1, 0)), list(0, 1, 2, 3, 4), true},
		"five, an inch too short": {rules(8, 1, 1), plates(plate(1, 1, 0), plate(1, 1, 0), plate(1, 1, 0), plate(1, 1, 0), plate(1, 1, 0)), list(0, 1, 2, 3, 4), false},
		"four of five":            {rules(8, 1, 1), plates(plate(1, 1, 0), plate(1, 1, 0), plate(1, 1, 0), plate(1, 1, 0), plate(1, 1, 0)), list(0, 1, 3, 4), true},
		"three cuts deep":         {rules(8, 8, 0), plates(grain(8, 3, 0), grain(3, 5, 0), grain(5, 2, 0), grain(2, 3, 0), grain(3, 3, 0)), list(0, 1, 2, 3, 4), true},
	} {
		if got, e := sheet.Comes(x.r, x.l, x.set); got != x.want || e != api.OK {
			t.Error(name, got, e)
		}
	}
}

// P5.4, with example 3.
func TestRest(t *testing.T) {
	one := plates(grain(4, 3, 0), plate(4, 3, 0), plate(2, 6, 1))
	for name, x := range map[string]struct {
		r               api.SheetRules
		l               []api.SheetPlate
		set             []int
		upright, across int
		e               api.Errno
	}{
		"example 3":              {example(), four(), list(0, 1, 2), 5, 1, api.OK},
		"two cannot come out":    {example(), four(), list(0, 3), 0, 0, api.ErrNone},
		"one cannot come out":    {rules(3, 3, 0), one, list(0), 0, 0, api.ErrNone},
		"no plates":              {example(), four(), nil, 18, 10, api.OK},
		"no plates, a wide kerf": {rules(5, 4, 3), nil, nil, 1, 0, api.OK},
		"no plates, no cut":      {rules(4, 1, 3), nil, nil, 0, 0, api.OK},
		"no plates, one inch":    {rules(1, 2, 0), nil, nil, 0, 1, api.OK},
		"all of the sheet":       {rules(4, 3, 0), one, list(0), 0, 0, api.OK},
		"all of it, turned":      {rules(3, 4, 0), one, list(1), 0, 0, api.OK},
		"an inch, no kerf":       {rules(5, 4, 0), one, list(0), 1, 1, api.OK},
		"an inch for the kerf":   {rules(5, 4, 1), one, list(0), 0, 0, api.OK},
		"two inches":             {rules(6, 5, 1), one, list(0), 1, 1, api.OK},
		"turned for one":         {rules(6, 5, 1), one, list(1), 2, 1, api.OK},
		"with its rim":           {rules(10, 9, 0), one, list(2), 6, 5, api.OK},
		"two of them":            {rules(10, 9, 0), one, list(0, 1), 6, 6, api.OK},
	} {
		if upright, across, e := sheet.Rest(x.r, x.l, x.set); upright != x.upright || across != x.across || e != x.e {
			t.Error(name, upright, across, e)
		}
	}
}

// P5.5, with example 4.
func TestMost(t *testing.T) {
	for name, x := range map[string]struct {
		r     api.SheetRules
		l     []api.SheetPlate
		piece api.SheetSize
		want  []int
	}{
		"example 4":                {example(), four(), size(12, 9), list(1, 2)},
		"all":                      {example(), four(), size(30, 19), list(0, 1, 2, 3)},
		"a whole sheet":            {example(), four(), size(20, 12), list(0, 1, 2)},
		"none":                     {example(), four(), size(9, 2), nil},
		"no plates":                {example(), nil, size(30, 30), nil},
		"one of two":               {example(), four(), size(10, 6), list(0)},
		"just one":                 {example(), four(), size(9, 5), list(1)},
		"turned":                   {example(), four(), size(3, 10), list(2)},
		"not turned":               {example(), four(), size(5, 9), nil},
		"larger than the sheet":    {rules(1, 1, 0), four(), size(19, 30), list(0, 1, 2, 3)},
		"the kerf of the sheet":    {rules(1, 1, 1), plates(plate(1, 1, 0), plate(1, 1, 0)), size(2, 1), list(0)},
		"no kerf":                  {rules(1, 1, 0), plates(plate(1, 1, 0), plate(1, 1, 0)), size(2, 1), list(0, 1)},
		"a kerf of three":          {rules(1, 1, 3), plates(plate(1, 1, 0), plate(1, 1, 0)), size(1, 5), list(0, 1)},
		"many small before one":    {rules(1, 1, 0), plates(plate(4, 4, 0), plate(2, 2, 0), plate(2, 2, 0)), size(4, 4), list(1, 2)},
		"the first two of three":   {rules(1, 1, 0), plates(plate(2, 2, 0), plate(2, 2, 0), plate(2, 2, 0)), size(4, 3), list(0, 1)},
		"the first and third":      {rules(1, 1, 0), plates(plate(2, 2, 0), plate(3, 2, 0), plate(2, 2, 0)), size(4, 2), list(0, 2)},
		"one inch":                 {rules(1, 1, 0), plates(plate(2, 2, 0), plate(1, 1, 0), plate(1, 1, 0)), size(1, 1), list(1)},
		"five of the largest size": {rules(1, 1, 0), plates(plate(5, 5, 5), plate(5, 5, 5), plate(5, 5, 5), plate(5, 5, 5), plate(1, 1, 0)), size(30, 30), list(0, 1, 2, 3)},
	} {
		if got, e := sheet.Most(x.r, x.l, x.piece); !slices.Equal(got, x.want) || e != api.OK {
			t.Error(name, got, e)
		}
	}
}

// P5.6, with example 5.
func TestSheets(t *testing.T) {
	for name, x := range map[string]struct {
		r    api.SheetRules
		l    []api.SheetPlate
		want []int
		e    api.Errno
	}{
		"example 5":                 {example(), four(), list(0, 0, 0, 1), api.OK},
		"no plates":                 {example(), nil, nil, api.OK},
		"one plate":                 {example(), plates(plate(1, 1, 0)), list(0), api.OK},
		"one too long":              {example(), plates(plate(21, 1, 0)), nil, api.ErrNone},
		"the last one too long":     {example(), append(four(), plate(21, 1, 0)), nil, api.ErrNone},
		"too high if not turned":    {example(), plates(grain(1, 13, 0)), nil, api.ErrNone},
		"turned":                    {example(), plates(plate(1, 13, 0)), list(0), api.OK},
		"with its rim":              {example(), plates(plate(20, 1, 1)), nil, api.ErrNone},
		"the other way":             {example(), plates(four()[3], four()[2], four()[1], four()[0]), list(0, 1, 1, 1), api.OK},
		"a sheet for each":          {rules(4, 4, 0), plates(plate(4, 4, 0), plate(4, 4, 0), plate(4, 4, 0), plate(3, 3, 0), plate(3, 3, 0)), list(0, 1, 2, 3, 4), api.OK},
		"the first sheet, if it is": {rules(4, 4, 0), plates(plate(2, 4, 0), plate(3, 4, 0), plate(2, 4, 0), plate(1, 4, 0)), list(0, 1, 0, 1), api.OK},
		"not as they come":          {rules(6, 1, 0), plates(plate(2, 1, 0), plate(2, 1, 0), plate(4, 1, 0), plate(4, 1, 0)), list(0, 1, 0, 1), api.OK},
		"each as early as can be":   {rules(6, 1, 0), plates(plate(1, 1, 0), plate(1, 1, 0), plate(5, 1, 0), plate(4, 1, 0)), list(0, 0, 1, 0), api.OK},
		"the kerf between":          {rules(6, 1, 1), plates(plate(2, 1, 0), plate(2, 1, 0), plate(4, 1, 0), plate(4, 1, 0)), list(0, 0, 1, 2), api.OK},
	} {
		if got, e := sheet.Sheets(x.r, x.l); !slices.Equal(got, x.want) || e != x.e {
			t.Error(name, got, e)
		}
	}
}

// P5.7, with example 5.
func TestBound(t *testing.T) {
	for name, x := range map[string]struct {
		r    api.SheetRules
		l    []api.SheetPlate
		want int
	}{
		"example 5":                {example(), four(), 2},
		"no plates":                {example(), nil, 0},
		"just one sheet":           {rules(4, 3, 3), plates(plate(4, 2, 0), plate(4, 1, 0)), 1},
		"an inch more":             {rules(4, 3, 3), plates(plate(4, 2, 0), plate(4, 1, 0), plate(1, 1, 0)), 2},
		"an inch less":             {rules(4, 3, 3), plates(plate(4, 2, 0), plate(3, 1, 0)), 1},
		"just two":                 {rules(4, 3, 3), plates(plate(4, 3, 0), grain(3, 4, 0)), 2},
		"one inch":                 {rules(30, 30, 0), plates(plate(1, 1, 0)), 1},
		"with the rims":            {rules(4, 3, 0), plates(plate(2, 1, 1), plate(1, 1, 0)), 2},
		"the most":                 {rules(1, 1, 0), slices.Repeat(plates(plate(30, 30, 5)), 5), 8000},
		"it cannot come out":       {rules(10, 10, 0), plates(plate(20, 1, 0)), 1},
		"it cannot come out of it": {rules(2, 2, 0), plates(plate(3, 3, 0)), 3},
	} {
		if got, e := sheet.Bound(x.r, x.l); got != x.want || e != api.OK {
			t.Error(name, got, e)
		}
	}
}

// P5.8, with example 6.
func TestPieces(t *testing.T) {
	for name, x := range map[string]struct {
		r    api.SheetRules
		l    []api.SheetCut
		want []api.SheetSize
	}{
		"example 6":              {example(), cuts(upright(0, 10), across(0, 6)), sizes(size(10, 6), size(9, 12), size(10, 5))},
		"example 7":              {example(), cuts(upright(0, 10), across(0, 6), upright(0, 4)), sizes(size(4, 6), size(9, 12), size(10, 5), size(5, 6))},
		"no cut":                 {example(), nil, sizes(size(20, 12))},
		"upright":                {example(), cuts(upright(0, 3)), sizes(size(3, 12), size(16, 12))},
		"across":                 {example(), cuts(across(0, 3)), sizes(size(20, 3), size(20, 8))},
		"of the second one":      {example(), cuts(upright(0, 3), across(1, 3)), sizes(size(3, 12), size(16, 3), size(16, 8))},
		"the second one, then 0": {example(), cuts(upright(0, 3), upright(1, 1), across(0, 1)), sizes(size(3, 1), size(1, 12), size(14, 12), size(3, 10))},
		"no kerf":                {rules(20, 12, 0), cuts(upright(0, 3), across(0, 11)), sizes(size(3, 11), size(17, 12), size(3, 1))},
		"a kerf of three":        {rules(20, 12, 3), cuts(upright(0, 16), across(1, 8)), sizes(size(16, 12), size(1, 8), size(1, 1))},
	} {
		if got, e := sheet.Pieces(x.r, x.l); !slices.Equal(got, x.want) || e != api.OK {
			t.Error(name, got, e)
		}
	}
}

// strips returns cuts of the example's sheet, by which so many strips of an inch are cut off.
func strips(many int) []api.SheetCut {
	var out []api.SheetCut
	for i := range many {
		out = append(out, upright(i, 1))
	}
	return out
}

// P5.9, with example 6.
func TestTakes(t *testing.T) {
	two := cuts(upright(0, 10), across(0, 6))
	for name, x := range map[string]struct {
		r    api.SheetRules
		l    []api.SheetPlate
		cuts []api.SheetCut
		want []int
	}{
		"example 6":               {example(), four(), two, list(0, 1, 2, -1)},
		"example 7":               {example(), four(), append(two, upright(0, 4)), list(-1, 1, 2, -1)},
		"no cut":                  {example(), four(), nil, list(-1, -1, -1, 0)},
		"no plates":               {example(), nil, two, nil},
		"none can be":             {example(), plates(plate(30, 1, 0), grain(1, 13, 0)), two, list(-1, -1)},
		"turned":                  {example(), plates(plate(11, 9, 0)), two, list(1)},
		"not turned":              {example(), plates(grain(11, 9, 0)), two, list(-1)},
		"the first piece of some": {example(), plates(plate(3, 5, 0)), two, list(0)},
		"one out of each":         {example(), slices.Repeat(plates(plate(3, 5, 0)), 4), two, list(-1, 0, 1, 2)},
		"the first one left":      {example(), slices.Repeat(plates(plate(9, 12, 0)), 3), two, list(-1, -1, 1)},
		"one makes room":          {example(), plates(plate(1, 1, 0), plate(10, 6, 0)), cuts(upright(0, 10), across(0, 6), across(1, 6)), list(1, 0)},
		"two make room":           {example(), plates(grain(9, 5, 0), grain(10, 5, 0), grain(10, 6, 0)), two, list(1, 2, 0)},
		"all of five":             {example(), slices.Repeat(plates(plate(1, 1, 0)), 5), cuts(upright(0, 1), upright(1, 1), upright(2, 1), upright(3, 1)), list(0, 1, 2, 3, 4)},
		"nine pieces":             {example(), plates(plate(5, 4, 1), grain(2, 4, 1)), eight(), list(-1, 0)},
		"the second one":          {example(), plates(plate(4, 12, 0), plate(3, 12, 0)), eight(), list(0, 1)},
		"the last one of nine":    {example(), plates(plate(4, 12, 0), plate(1, 12, 0)), strips(8), list(8, 0)},
	} {
		if got, e := sheet.Takes(x.r, x.l, x.cuts); !slices.Equal(got, x.want) || e != api.OK {
			t.Error(name, got, e)
		}
	}
}

// P5.10, with example 7.
func TestSpoiled(t *testing.T) {
	two := cuts(upright(0, 10), across(0, 6))
	for name, x := range map[string]struct {
		l    []api.SheetPlate
		cuts []api.SheetCut
		want []int
	}{
		"example 7, none":     {four(), two, nil},
		"example 7":           {four(), append(two, upright(0, 4)), list(2)},
		"no cut":              {four(), nil, nil},
		"no plates":           {nil, append(two, upright(0, 4)), nil},
		"the first one":       {plates(plate(20, 12, 0)), two, list(0)},
		"the second one":      {plates(plate(10, 12, 0)), two, list(1)},
		"two of them":         {plates(grain(9, 12, 0), grain(10, 5, 0)), append(two, upright(2, 5), upright(0, 1), across(1, 6)), list(3, 4)},
		"as many as before":   {plates(plate(18, 12, 0), plate(9, 12, 0)), cuts(upright(0, 10)), nil},
		"one more, then less": {plates(plate(9, 6, 0), plate(9, 12, 0)), append(two, across(1, 10)), list(2)},
		"none of eight":       {plates(plate(3, 12, 0)), eight(), nil},
		"the eighth":          {plates(plate(6, 12, 0)), append(strips(7), across(7, 6)), list(7)},
		"turned":              {plates(grain(1, 12, 0), plate(2, 12, 0)), cuts(across(0, 9)), nil},
		"not turned":          {plates(grain(1, 12, 0), grain(2, 12, 0)), cuts(across(0, 9)), list(0)},
	} {
		if got, e := sheet.Spoiled(example(), x.l, x.cuts); !slices.Equal(got, x.want) || e != api.OK {
			t.Error(name, got, e)
		}
	}
}
