package tests

import (
	"math"
	"math/rand"
	"slices"
	"strings"
	"sync"
	"testing"

	"loop.example/excavation/impl"
)

// phaseCase has a phase model and all its dates.
type phaseCase struct {
	groupCase
	weights [][]int
	dates   [][]int
}

// weightsOf returns the weights of the words of a text, a digit for each year.
func weightsOf(text string) [][]int {
	var weights [][]int
	for _, word := range strings.Fields(text) {
		var row []int
		for _, digit := range word {
			row = append(row, int(digit-'0'))
		}
		weights = append(weights, row)
	}
	return weights
}

// expectedDates returns all dates, found in another way: all lists of years are tried.
func expectedDates(g groupCase) [][]int {
	c := dateCaseOf(g)
	return slices.DeleteFunc(tuples(numbersOf(6, 0, 1), len(g.ids)), func(years []int) bool { return !expectedFit(c, years) })
}

// phaseCaseOf returns the case of contexts, relations and weights.
func phaseCaseOf(g groupCase, weights [][]int) phaseCase {
	return phaseCase{g, weights, expectedDates(g)}
}

// with returns the case of other weights.
func (c phaseCase) with(weights [][]int) phaseCase {
	c.weights = weights
	return c
}

// sum returns the sum of the weights of the dates that are chosen.
func (c phaseCase) sum(chosen func(years []int) bool) int {
	sum := 0
	for _, years := range c.dates {
		if !chosen(years) {
			continue
		}
		product := 1
		for i, year := range years {
			product *= c.weights[i][year]
		}
		sum += product
	}
	return sum
}

// total returns the sum of the weights of all dates.
func (c phaseCase) total() int {
	return c.sum(func([]int) bool { return true })
}

// share returns the sum of the weights of the dates in which the context at a place has a year.
func (c phaseCase) share(i, year int) int {
	return c.sum(func(years []int) bool { return years[i] == year })
}

// quantile returns the year that PhaseQuantile must return for the context at a place.
func (c phaseCase) quantile(i, num, den int) int {
	total := c.total()
	if total == 0 {
		return -1
	}
	year := 0
	for c.sum(func(years []int) bool { return years[i] <= year })*den < total*num {
		year++
	}
	return year
}

// sumOf returns the sum of numbers.
func sumOf(list []int) int {
	sum := 0
	for _, n := range list {
		sum += n
	}
	return sum
}

// totalOf returns what PhaseTotal returns.
func totalOf(c phaseCase) int {
	return impl.PhaseTotal(c.ids, c.rels, c.weights)
}

// sharesOf returns what PhaseShare returns for each year of a context.
func sharesOf(c phaseCase, id int) []int {
	var shares []int
	for year := range 6 {
		shares = append(shares, impl.PhaseShare(c.ids, c.rels, c.weights, id, year))
	}
	return shares
}

// beforeOf returns what PhaseBefore returns.
func beforeOf(c phaseCase, a, b int) int {
	return impl.PhaseBefore(c.ids, c.rels, c.weights, a, b)
}

// quantileOf returns what PhaseQuantile returns.
func quantileOf(c phaseCase, id, num, den int) int {
	return impl.PhaseQuantile(c.ids, c.rels, c.weights, id, num, den)
}

// randomWeights returns rows of weights of which one in some is 0.
func randomWeights(random *rand.Rand, n, some int) [][]int {
	var weights [][]int
	for range n {
		row := make([]int, 6)
		for year := range row {
			if random.Intn(some) > 0 {
				row[year] = 1 + random.Intn(9)
			}
		}
		weights = append(weights, row)
	}
	return weights
}

// weightsFor returns weights for a number of contexts: few and many years without weight, the greatest weights, those that
// differ in each year, and those with a context of which one year or none has a weight.
func weightsFor(random *rand.Rand, n int) [][][]int {
	all := [][][]int{
		randomWeights(random, n, math.MaxInt),
		randomWeights(random, n, 2),
		randomWeights(random, n, 4),
		slices.Repeat([][]int{{9, 9, 9, 9, 9, 9}}, n),
		weightsOf("123456 654321 314159 271828")[:n],
	}
	if n > 0 {
		one, none := randomWeights(random, n, 5), randomWeights(random, n, 5)
		one[random.Intn(n)] = weightsOf("000000 100000 000009 003000")[random.Intn(4)]
		none[random.Intn(n)] = make([]int, 6)
		all = append(all, one, none)
	}
	return all
}

// phaseGroups returns contexts and relations of phase models: all that two or three contexts can have, and many of four.
func phaseGroups(random *rand.Rand) []groupCase {
	groups := []groupCase{{nil, nil}, {[]int{7}, nil}, {[]int{99}, nil}}
	for _, ids := range [][]int{{1, 2}, {8, 9, 10}} {
		for _, rels := range subsets(relsWithin(ids)) {
			groups = append(groups, groupCase{ids, rels})
		}
	}
	four := []int{3, 20, 21, 99}
	groups = append(groups, groupCase{four, nil}, groupCase{four, chain(four)}, groupCase{four, pathOf(four)})
	for k := range 120 {
		order := shuffled(random, four)
		rels := shuffledRels(random, allBehind(order))[:random.Intn(7)]
		if k%2 == 0 {
			rels = append(rels, chain(shuffled(random, four)[:2+k%3/2])...)
		}
		groups = append(groups, groupCase{four, inOrder(rels)})
	}
	return slices.DeleteFunc(groups, func(g groupCase) bool { return !impl.OrderValid(g.ids, g.rels) })
}

// phaseCases returns phase models, each with some of the weights for its contexts. They are the same in each run.
var phaseCases = sync.OnceValue(func() []phaseCase {
	random := rand.New(rand.NewSource(21))
	var cases []phaseCase
	for k, g := range phaseGroups(random) {
		c := phaseCaseOf(g, nil)
		for i, weights := range weightsFor(random, len(g.ids)) {
			if len(g.ids) < 3 || (i+k)%3 == 0 {
				cases = append(cases, c.with(weights))
			}
		}
	}
	return cases
})

func TestPhaseConstants(t *testing.T) {
	if impl.PhaseMax != 4 || impl.PhaseYears != 6 || impl.WeightMax != 9 {
		t.Errorf("PhaseMax, PhaseYears and WeightMax are %d, %d and %d", impl.PhaseMax, impl.PhaseYears, impl.WeightMax)
	}
}

// phaseExample has relations and weights as texts, and the total and the shares of each context, as numbers.
type phaseExample struct {
	ids     []int
	text    string
	weights string
	total   int
	shares  [][]int
}

// phaseExamples returns the cases that the document names, written out.
func phaseExamples() map[string]phaseExample {
	two, three, four := []int{1, 2}, []int{1, 2, 3}, []int{1, 2, 3, 4}
	none := make([]int, 6)
	return map[string]phaseExample{
		"no contexts":                {nil, "", "", 1, nil},
		"one context":                {[]int{7}, "", "123456", 21, [][]int{{1, 2, 3, 4, 5, 6}}},
		"one context, first year":    {[]int{7}, "", "500000", 5, [][]int{{5, 0, 0, 0, 0, 0}}},
		"one context, last year":     {[]int{7}, "", "000005", 5, [][]int{{0, 0, 0, 0, 0, 5}}},
		"one context without weight": {[]int{7}, "", "000000", 0, [][]int{none}},
		"one context of WeightMax":   {[]int{7}, "", "999999", 54, [][]int{{9, 9, 9, 9, 9, 9}}},
		"no relations":               {two, "", "120000 000034", 21, [][]int{{7, 14, 0, 0, 0, 0}, {0, 0, 0, 0, 9, 12}}},
		"later above":                {two, "1>2", "110000 110000", 3, [][]int{{1, 2, 0, 0, 0, 0}, {2, 1, 0, 0, 0, 0}}},
		"later above, back":          {two, "2>1", "110000 110000", 3, [][]int{{2, 1, 0, 0, 0, 0}, {1, 2, 0, 0, 0, 0}}},
		"different weights":          {two, "1>2", "230000 500007", 25, [][]int{{10, 15, 0, 0, 0, 0}, {25, 0, 0, 0, 0, 0}}},
		"all dates are late enough":  {two, "1>2", "000230 410000", 25, [][]int{{0, 0, 0, 10, 15, 0}, {20, 5, 0, 0, 0, 0}}},
		"no dates with weight":       {two, "1>2", "110000 001111", 0, [][]int{none, none}},
		"dates of one year":          {two, "1>2", "430000 056000", 15, [][]int{{0, 15, 0, 0, 0, 0}, {0, 15, 0, 0, 0, 0}}},
		"the last year above":        {two, "1>2", "000002 111111", 12, [][]int{{0, 0, 0, 0, 0, 12}, {2, 2, 2, 2, 2, 2}}},
		"the last year below":        {two, "1>2", "111111 000002", 2, [][]int{{0, 0, 0, 0, 0, 2}, {0, 0, 0, 0, 0, 2}}},
		"the first year above":       {two, "1>2", "200000 111111", 2, [][]int{{2, 0, 0, 0, 0, 0}, {2, 0, 0, 0, 0, 0}}},
		"the first year below":       {two, "1>2", "111111 200000", 12, [][]int{{2, 2, 2, 2, 2, 2}, {12, 0, 0, 0, 0, 0}}},
		"one without weight":         {two, "", "999999 000000", 0, [][]int{none, none}},
		"the other without weight":   {two, "1>2", "000000 999999", 0, [][]int{none, none}},
		"equal":                      {two, "1=2", "123000 321000", 10, [][]int{{3, 4, 3, 0, 0, 0}, {3, 4, 3, 0, 0, 0}}},
		"equal, no common year":      {two, "1=2", "101010 010101", 0, [][]int{none, none}},
		"equal, the last year":       {two, "1=2", "900009 000009", 81, [][]int{{0, 0, 0, 0, 0, 81}, {0, 0, 0, 0, 0, 81}}},
		"through another": {three, "1>2 2>3", "110000 110000 110000", 4,
			[][]int{{1, 3, 0, 0, 0, 0}, {2, 2, 0, 0, 0, 0}, {3, 1, 0, 0, 0, 0}}},
		"two above one": {three, "1>3 2>3", "110000 110000 110000", 5,
			[][]int{{2, 3, 0, 0, 0, 0}, {2, 3, 0, 0, 0, 0}, {4, 1, 0, 0, 0, 0}}},
		"one above two": {three, "1>2 1>3", "110000 110000 110000", 5,
			[][]int{{1, 4, 0, 0, 0, 0}, {3, 2, 0, 0, 0, 0}, {3, 2, 0, 0, 0, 0}}},
		"above an equal one": {three, "1>3 2=3", "110000 230000 110000", 7,
			[][]int{{2, 5, 0, 0, 0, 0}, {4, 3, 0, 0, 0, 0}, {4, 3, 0, 0, 0, 0}}},
		"below an equal one": {three, "1=2 2>3", "110000 230000 110000", 8,
			[][]int{{2, 6, 0, 0, 0, 0}, {2, 6, 0, 0, 0, 0}, {5, 3, 0, 0, 0, 0}}},
		"one beside others": {three, "1>3", "110000 000200 110000", 6,
			[][]int{{2, 4, 0, 0, 0, 0}, {0, 0, 0, 6, 0, 0}, {4, 2, 0, 0, 0, 0}}},
		"numbers that are not indices": {[]int{9, 42, 99}, "99>9 9>42", "110000 110000 230000", 11,
			[][]int{{5, 6, 0, 0, 0, 0}, {8, 3, 0, 0, 0, 0}, {2, 9, 0, 0, 0, 0}}},
		"PhaseMax contexts":                     {four, "", strings.Repeat("999999 ", 4), 8503056, slices.Repeat([][]int{slices.Repeat([]int{1417176}, 6)}, 4)},
		"PhaseMax contexts, one without weight": {four, "", "999999 999999 000000 999999", 0, [][]int{none, none, none, none}},
		"PhaseMax contexts in a row": {four, "1>2 2>3 3>4", strings.Repeat("111111 ", 4), 126,
			[][]int{{1, 4, 10, 20, 35, 56}, {6, 15, 24, 30, 30, 21}, {21, 30, 30, 24, 15, 6}, {56, 35, 20, 10, 4, 1}}},
		"PhaseMax contexts in a row of WeightMax": {four, "2>1 3>2 4>3", strings.Repeat("999999 ", 4), 826686,
			[][]int{{367416, 229635, 131220, 65610, 26244, 6561}, {137781, 196830, 196830, 157464, 98415, 39366},
				{39366, 98415, 157464, 196830, 196830, 137781}, {6561, 26244, 65610, 131220, 229635, 367416}}},
		"PhaseMax contexts of a group": {four, "1=4 2=3 3=4", "123456 111111 222222 300001", 18,
			slices.Repeat([][]int{{6, 0, 0, 0, 0, 12}}, 4)},
	}
}

func TestPhaseExamples(t *testing.T) {
	for name, e := range phaseExamples() {
		rels, weights := parsed(t, e.text), weightsOf(e.weights)
		if !impl.PhaseValid(e.ids, rels, weights) {
			t.Errorf("%s: PhaseValid is false", name)
		}
		if got := impl.PhaseTotal(e.ids, rels, weights); got != e.total {
			t.Errorf("%s: PhaseTotal returned %d, not %d", name, got, e.total)
		}
		for i, id := range e.ids {
			for year, want := range e.shares[i] {
				if got := impl.PhaseShare(e.ids, rels, weights, id, year); got != want {
					t.Errorf("%s: PhaseShare of %d and %d returned %d, not %d", name, id, year, got, want)
				}
			}
		}
	}
}

func TestPhaseBeforeExamples(t *testing.T) {
	for name, e := range map[string]struct {
		text    string
		weights string
		a, b    int
		want    int
	}{
		"alone, with itself":          {"", "123456", 1, 1, 0},
		"with itself":                 {"", "123456 123456", 2, 2, 0},
		"with itself, above another":  {"1>2", "123456 123456", 1, 1, 0},
		"no relations":                {"", "120000 003400", 1, 2, 21},
		"no relations, exchanged":     {"", "120000 003400", 2, 1, 0},
		"the same years":              {"", "230000 450000", 1, 2, 10},
		"the same years, exchanged":   {"", "230000 450000", 2, 1, 12},
		"first and last year":         {"", "100001 200002", 1, 2, 2},
		"neighbouring years":          {"", "000010 000001", 1, 2, 1},
		"only in one year":            {"", "000900 000900", 1, 2, 0},
		"above":                       {"1>2", "110000 110000", 1, 2, 0},
		"below":                       {"1>2", "110000 110000", 2, 1, 1},
		"below, different weights":    {"2>1", "230000 450000", 1, 2, 10},
		"below, all six years":        {"1>2", "111111 111111", 2, 1, 15},
		"equal":                       {"1=2", "123456 123456", 1, 2, 0},
		"equal, exchanged":            {"1=2", "123456 123456", 2, 1, 0},
		"far above":                   {"1>2 2>3", "110000 110000 110000", 1, 3, 0},
		"far below":                   {"1>2 2>3", "110000 110000 110000", 3, 1, 2},
		"below an equal one":          {"1=2 2>3", "110000 230000 110000", 3, 1, 3},
		"side by side":                {"1>2 1>3", "110000 110000 110000", 2, 3, 1},
		"a third without weight":      {"", "110000 001100 000000", 1, 2, 0},
		"one of both without weight":  {"", "110000 000000 111111", 1, 2, 0},
		"a third with several years":  {"", "100000 020000 111111", 1, 2, 12},
		"four of WeightMax":           {"", "999999 999999 999999 999999", 4, 1, 3542940},
		"four of WeightMax, last one": {"", "999999 999999 999999 999999", 1, 4, 3542940},
	} {
		weights := weightsOf(e.weights)
		ids := numbersOf(len(weights), 1, 1)
		if got := impl.PhaseBefore(ids, parsed(t, e.text), weights, e.a, e.b); got != e.want {
			t.Errorf("%s: PhaseBefore returned %d, not %d", name, got, e.want)
		}
	}
}

func TestPhaseQuantileExamples(t *testing.T) {
	for name, e := range map[string]struct {
		text     string
		weights  string
		id       int
		num, den int
		want     int
	}{
		"half of two years":             {"", "110000", 1, 1, 2, 0},
		"more than half of two years":   {"", "110000", 1, 51, 100, 1},
		"less than half of two years":   {"", "110000", 1, 49, 100, 0},
		"the whole of two years":        {"", "110000", 1, 1, 1, 1},
		"a part of 1":                   {"", "110000", 1, 1, 100, 0},
		"a part of 1, reached late":     {"", "000019", 1, 1, 100, 4},
		"a part of 1, the last year":    {"", "000009", 1, 1, 100, 5},
		"the whole":                     {"", "111111", 1, 1, 1, 5},
		"the whole as 100 of 100":       {"", "111111", 1, 100, 100, 5},
		"the whole but for 1":           {"", "999991", 1, 99, 100, 5},
		"nearly the whole":              {"", "999991", 1, 97, 100, 4},
		"the whole, no last years":      {"", "123000", 1, 7, 7, 2},
		"the whole of the first year":   {"", "300000", 1, 100, 100, 0},
		"the whole of the last year":    {"", "000003", 1, 1, 1, 5},
		"exactly a third":               {"", "333000", 1, 1, 3, 0},
		"33 of 100":                     {"", "333000", 1, 33, 100, 0},
		"34 of 100":                     {"", "333000", 1, 34, 100, 1},
		"66 of 100":                     {"", "333000", 1, 66, 100, 1},
		"67 of 100":                     {"", "333000", 1, 67, 100, 2},
		"exactly two thirds":            {"", "333000", 1, 2, 3, 1},
		"not a year without weight":     {"", "010100", 1, 1, 2, 1},
		"behind years without weight":   {"", "010100", 1, 2, 3, 3},
		"between years without weight":  {"", "001011", 1, 2, 3, 4},
		"each sixth":                    {"", "111111", 1, 4, 6, 3},
		"each sixth, a bit more":        {"", "111111", 1, 67, 100, 4},
		"one without weight":            {"", "000000", 1, 1, 2, -1},
		"another without weight":        {"", "111111 000000", 1, 1, 2, -1},
		"no dates with weight":          {"1>2", "100000 010000", 1, 1, 1, -1},
		"the upper one":                 {"1>2", "110000 110000", 1, 1, 2, 1},
		"the upper one, a third":        {"1>2", "110000 110000", 1, 1, 3, 0},
		"the lower one":                 {"1>2", "110000 110000", 2, 1, 2, 0},
		"the lower one, two thirds":     {"1>2", "110000 110000", 2, 2, 3, 0},
		"the lower one, a bit more":     {"1>2", "110000 110000", 2, 67, 100, 1},
		"first years without dates":     {"1>2", "111111 000200", 1, 1, 100, 3},
		"last years without dates":      {"1>2", "000200 111111", 2, 1, 1, 3},
		"equal ones":                    {"1=2", "123000 321000", 2, 3, 10, 0},
		"equal ones, a bit more":        {"1=2", "123000 321000", 1, 31, 100, 1},
		"four of WeightMax":             {"", "999999 999999 999999 999999", 3, 50, 100, 2},
		"four of WeightMax, a bit more": {"", "999999 999999 999999 999999", 3, 51, 100, 3},
		"four of WeightMax, the whole":  {"", "999999 999999 999999 999999", 4, 100, 100, 5},
	} {
		weights := weightsOf(e.weights)
		ids := numbersOf(len(weights), 1, 1)
		if got := impl.PhaseQuantile(ids, parsed(t, e.text), weights, e.id, e.num, e.den); got != e.want {
			t.Errorf("%s: PhaseQuantile returned %d, not %d", name, got, e.want)
		}
	}
}

// All models are valid, and their sums are those of the dates that are found in another way.
func TestPhaseSums(t *testing.T) {
	weighted, none := 0, 0
	for _, c := range phaseCases() {
		if !impl.PhaseValid(c.ids, c.rels, c.weights) {
			t.Fatalf("PhaseValid(%v, %v, %v) is false", c.ids, c.rels, c.weights)
		}
		total := c.total()
		if got := totalOf(c); got != total {
			t.Fatalf("PhaseTotal(%v, %v, %v) returned %d, not %d", c.ids, c.rels, c.weights, got, total)
		}
		for i, a := range c.ids {
			for year, got := range sharesOf(c, a) {
				if want := c.share(i, year); got != want {
					t.Fatalf("PhaseShare(%v, %v, %v, %d, %d) returned %d, not %d", c.ids, c.rels, c.weights, a, year, got, want)
				}
			}
			for j, b := range c.ids {
				want := c.sum(func(years []int) bool { return years[i] < years[j] })
				if got := beforeOf(c, a, b); got != want {
					t.Fatalf("PhaseBefore(%v, %v, %v, %d, %d) returned %d, not %d", c.ids, c.rels, c.weights, a, b, got, want)
				}
			}
		}
		if total > 0 {
			weighted++
		} else {
			none++
		}
	}
	if weighted < 200 || none < 20 {
		t.Errorf("%d models have dates with weight, and %d do not", weighted, none)
	}
}

// Promise 86: all years of a context together have the weight of all dates.
func TestPhaseSharesAreTotal(t *testing.T) {
	for _, c := range phaseCases() {
		for _, id := range c.ids {
			if shares := sharesOf(c, id); sumOf(shares) != totalOf(c) {
				t.Fatalf("PhaseShare(%v, %v, %v, %d) returned %v, but PhaseTotal is %d", c.ids, c.rels, c.weights, id, shares, totalOf(c))
			}
		}
	}
}

// Promise 87: without relations the weight is the product of the sums of the weights of each context.
func TestPhaseTotalWithoutRelations(t *testing.T) {
	random := rand.New(rand.NewSource(210))
	for n := range 5 {
		for range 10 {
			for _, weights := range weightsFor(random, n) {
				want := 1
				for _, row := range weights {
					want *= sumOf(row)
				}
				if got := impl.PhaseTotal(numbersOf(n, 5, 30), nil, weights); got != want {
					t.Fatalf("PhaseTotal without relations and with %v returned %d, not %d", weights, got, want)
				}
			}
		}
	}
}

// Promise 88: there is no share in a year without weight, though there may be one in each other year.
func TestPhaseShareOfYearsWithoutWeight(t *testing.T) {
	without, with := 0, 0
	for _, c := range phaseCases() {
		total := totalOf(c)
		for i, id := range c.ids {
			for year, share := range sharesOf(c, id) {
				switch {
				case c.weights[i][year] == 0 && share != 0:
					t.Fatalf("PhaseShare(%v, %v, %v, %d, %d) returned %d", c.ids, c.rels, c.weights, id, year, share)
				case c.weights[i][year] == 0 && total > 0:
					without++
				case share > 0:
					with++
				}
			}
		}
	}
	if without < 100 || with < 100 {
		t.Errorf("only %d years have no weight, and %d have a share", without, with)
	}
}

// Promise 89: with the weights of one context doubled, everything has the double weight.
func TestPhaseSumsOfDoubledWeights(t *testing.T) {
	random := rand.New(rand.NewSource(211))
	for _, c := range phaseCases() {
		if len(c.ids) == 0 {
			continue
		}
		once, twice := cloneRows(c.weights), cloneRows(c.weights)
		i := random.Intn(len(once))
		for year := range once[i] {
			once[i][year] %= 5
			twice[i][year] = 2 * once[i][year]
		}
		first, second := c.with(once), c.with(twice)
		if totalOf(second) != 2*totalOf(first) {
			t.Fatalf("PhaseTotal(%v, %v, %v) returned %d, but %d with doubled weights", c.ids, c.rels, once, totalOf(first), totalOf(second))
		}
		for _, id := range c.ids {
			other := sharesOf(second, id)
			for year, share := range sharesOf(first, id) {
				if other[year] != 2*share {
					t.Fatalf("PhaseShare(%v, %v, %v, %d, %d) returned %d, but %d with doubled weights", c.ids, c.rels, once, id, year, share, other[year])
				}
			}
		}
	}
}

// Promise 90: without any one relation there are at least as many dates.
func TestPhaseTotalWithoutOneRelation(t *testing.T) {
	less := 0
	for _, c := range phaseCases() {
		total := totalOf(c)
		for i := range c.rels {
			got := impl.PhaseTotal(c.ids, without(c.rels, i), c.weights)
			if got < total {
				t.Fatalf("PhaseTotal(%v, %v, %v) returned %d, but %d without relation %d", c.ids, c.rels, c.weights, total, got, i)
			}
			if got > total {
				less++
			}
		}
	}
	if less < 100 {
		t.Errorf("only %d relations rule out dates", less)
	}
}

// Promise 91: the relations of the matrix lead to the same sums.
func TestPhaseSumsOfMatrix(t *testing.T) {
	for _, c := range phaseCases() {
		matrix, ok := impl.MatrixOf(c.ids, c.rels)
		other := c
		other.rels = matrix
		if !ok || totalOf(c) != totalOf(other) {
			t.Fatalf("PhaseTotal(%v, %v, %v) returned %d, but %d with %v", c.ids, c.rels, c.weights, totalOf(c), totalOf(other), matrix)
		}
		for _, id := range c.ids {
			if first, second := sharesOf(c, id), sharesOf(other, id); !slices.Equal(first, second) {
				t.Fatalf("PhaseShare(%v, %v, %v, %d) returned %v, but %v with %v", c.ids, c.rels, c.weights, id, first, second, matrix)
			}
		}
	}
}

// haveCommonYear reports whether two lists of shares have a year in which both are greater than 0.
func haveCommonYear(a, b []int) bool {
	for year := range a {
		if a[year] > 0 && b[year] > 0 {
			return true
		}
	}
	return false
}

// Promise 92: a context comes before another one, or behind it, or neither; never neither without a common year.
func TestPhaseBeforeBothWays(t *testing.T) {
	all, common := 0, 0
	for _, c := range phaseCases() {
		total := totalOf(c)
		var shares [][]int
		for _, id := range c.ids {
			shares = append(shares, sharesOf(c, id))
		}
		for i, a := range c.ids {
			for j, b := range c.ids[:i] {
				sum := beforeOf(c, a, b) + beforeOf(c, b, a)
				apart := !haveCommonYear(shares[i], shares[j])
				if sum > total || apart && sum != total {
					t.Fatalf("PhaseBefore(%v, %v, %v) of %d and %d returned %d in both ways, of %d", c.ids, c.rels, c.weights, a, b, sum, total)
				}
				if apart && total > 0 {
					all++
				} else if sum < total {
					common++
				}
			}
		}
	}
	if all < 20 || common < 100 {
		t.Errorf("only %d pairs of contexts have no common year, and %d have one", all, common)
	}
}

// Promise 93: no context comes before itself, an equal one, or one that it lies above.
func TestPhaseBeforeOfOrderedContexts(t *testing.T) {
	none, some := 0, 0
	for _, c := range phaseCases() {
		dates := dateCaseOf(c.groupCase)
		for i, a := range c.ids {
			for j, b := range c.ids {
				got := beforeOf(c, a, b)
				if dates.notBelow(i, j) && got != 0 {
					t.Fatalf("PhaseBefore(%v, %v, %v, %d, %d) returned %d", c.ids, c.rels, c.weights, a, b, got)
				}
				if dates.notBelow(i, j) {
					none++
				}
				if got > 0 {
					some++
				}
			}
		}
	}
	if none < 1000 || some < 500 {
		t.Errorf("%d pairs of contexts are not in this order, and %d are", none, some)
	}
}

// someParts returns parts of a weight: all with small denominators, and some of 100.
func someParts() [][2]int {
	var parts [][2]int
	for den := 1; den <= 7; den++ {
		for num := 1; num <= den; num++ {
			parts = append(parts, [2]int{num, den})
		}
	}
	for _, num := range []int{1, 2, 49, 50, 51, 99, 100} {
		parts = append(parts, [2]int{num, 100})
	}
	return append(parts, [2]int{1, 99}, [2]int{50, 99}, [2]int{99, 99}, [2]int{98, 99})
}

// Promise 94: the years up to the quantile have the part of the weight, and those before it do not.
func TestPhaseQuantile(t *testing.T) {
	random := rand.New(rand.NewSource(212))
	parts := someParts()
	found := make([]int, 6)
	for _, c := range phaseCases() {
		for i, id := range c.ids {
			for range 3 {
				part := parts[random.Intn(len(parts))]
				num, den := part[0], part[1]
				year := quantileOf(c, id, num, den)
				if want := c.quantile(i, num, den); year != want {
					t.Fatalf("PhaseQuantile(%v, %v, %v, %d, %d, %d) returned %d, not %d", c.ids, c.rels, c.weights, id, num, den, year, want)
				}
				if year < 0 {
					continue
				}
				found[year]++
				shares, total := sharesOf(c, id), totalOf(c)
				if sumOf(shares[:year+1])*den < total*num || sumOf(shares[:year])*den >= total*num {
					t.Fatalf("PhaseQuantile(%v, %v, %v, %d, %d, %d) returned %d, with the shares %v", c.ids, c.rels, c.weights, id, num, den, year, shares)
				}
			}
		}
	}
	if slices.Min(found) < 20 {
		t.Errorf("the years are returned %v times", found)
	}
}

// All parts of the weight of a context are tried, from 1 of 100 to the whole.
func TestPhaseQuantileOfAllParts(t *testing.T) {
	for _, text := range []string{"111111", "123456", "900001", "001000", "090909", "700000", "000005", "000000"} {
		weights := weightsOf(text)
		c := phaseCaseOf(groupCase{[]int{42}, nil}, weights)
		for den := 1; den <= 100; den++ {
			for num := 1; num <= den; num++ {
				if got, want := quantileOf(c, 42, num, den), c.quantile(0, num, den); got != want {
					t.Fatalf("PhaseQuantile of %s, %d and %d returned %d, not %d", text, num, den, got, want)
				}
			}
		}
	}
}

// The weights are those of the contexts at the same places: with other numbers and exchanged rows, the sums are exchanged.
func TestPhaseSumsOfExchangedContexts(t *testing.T) {
	random := rand.New(rand.NewSource(213))
	ids := []int{2, 5, 8, 11}
	for range 60 {
		weights := randomWeights(random, len(ids), 4)
		order := random.Perm(len(ids))
		rels := shuffledRels(random, allBehind(ids))[:random.Intn(5)]
		var other []impl.Rel
		moved := make([][]int, len(ids))
		for i, place := range order {
			moved[place] = weights[i]
		}
		for _, r := range rels {
			other = append(other, above(ids[order[slices.Index(ids, r.A)]], ids[order[slices.Index(ids, r.B)]]))
		}
		rels, other = inOrder(rels), inOrder(other)
		for i, place := range order {
			for year := range 6 {
				a := impl.PhaseShare(ids, rels, weights, ids[i], year)
				b := impl.PhaseShare(ids, other, moved, ids[place], year)
				if a != b || a < 0 {
					t.Fatalf("PhaseShare of %v, %v and %d is %d, but %d in another order", rels, weights, ids[i], a, b)
				}
			}
		}
	}
}

// Promise 95: a model with contexts is invalid without the last weights, and with a weight greater than WeightMax.
func TestPhaseValidWithoutWeights(t *testing.T) {
	for _, c := range phaseCases() {
		for i, row := range c.weights {
			checkNoPhases(t, "without a row", c.ids, c.rels, without(c.weights, i))
			for year := range row {
				other := cloneRows(c.weights)
				other[i][year] = 10
				if impl.PhaseValid(c.ids, c.rels, other) {
					t.Fatalf("PhaseValid(%v, %v, %v) is true", c.ids, c.rels, other)
				}
			}
		}
	}
}

// checkNoPhases checks that arguments are no phase model, and that nothing is summed.
func checkNoPhases(t *testing.T, name string, ids []int, rels []impl.Rel, weights [][]int) {
	t.Helper()
	if impl.PhaseValid(ids, rels, weights) {
		t.Errorf("%s: PhaseValid(%v, %v, %v) is true", name, ids, rels, weights)
	}
	if got := impl.PhaseTotal(ids, rels, weights); got != -1 {
		t.Errorf("%s: PhaseTotal(%v, %v, %v) returned %d", name, ids, rels, weights, got)
	}
	for _, id := range append([]int{0, 1, 2, 99, 100}, ids...) {
		for _, year := range []int{-1, 0, 3, 5, 6} {
			if got := impl.PhaseShare(ids, rels, weights, id, year); got != -1 {
				t.Errorf("%s: PhaseShare(%v, %v, %v, %d, %d) returned %d", name, ids, rels, weights, id, year, got)
			}
		}
		if got := impl.PhaseQuantile(ids, rels, weights, id, 1, 2); got != -1 {
			t.Errorf("%s: PhaseQuantile(%v, %v, %v, %d, 1, 2) returned %d", name, ids, rels, weights, id, got)
		}
		for _, other := range append([]int{1, 2}, ids...) {
			if got := impl.PhaseBefore(ids, rels, weights, id, other); got != -1 {
				t.Errorf("%s: PhaseBefore(%v, %v, %v, %d, %d) returned %d", name, ids, rels, weights, id, other, got)
			}
		}
	}
}

// invalidPhaseOrders returns invalid contexts and relations, and those with a circle, that have at most PhaseMax contexts.
func invalidPhaseOrders() []groupCase {
	cases := append(invalidDigCases(),
		groupCase{[]int{1, 2, 3, 4}, circleOf([]int{1, 3, 2, 4})},
		groupCase{[]int{1, 2, 3, 4}, []impl.Rel{same(1, 2), above(2, 3), above(3, 4), above(4, 1)}},
		groupCase{[]int{1, 2, 3}, []impl.Rel{same(1, 2), same(2, 3), above(3, 1)}},
		groupCase{[]int{1, 2, 3}, []impl.Rel{above(2, 3), above(3, 2)}},
		groupCase{[]int{2, 1}, nil},
		groupCase{[]int{1, 1}, nil},
		groupCase{[]int{0, 1, 2, 3}, nil},
		groupCase{[]int{97, 98, 99, 100}, nil},
		groupCase{[]int{-1}, nil},
		groupCase{[]int{1, 2}, []impl.Rel{above(2, 1), above(1, 2)}},
		groupCase{[]int{1, 2}, []impl.Rel{same(2, 1)}},
		groupCase{[]int{1, 2}, []impl.Rel{above(1, 3)}},
		groupCase{nil, []impl.Rel{above(1, 2)}},
	)
	return slices.DeleteFunc(cases, func(c groupCase) bool { return len(c.ids) > impl.PhaseMax })
}

// Nothing is summed for relations for which OrderValid does not hold, whatever the weights are.
func TestPhasesOfInvalidOrder(t *testing.T) {
	cases := invalidPhaseOrders()
	for _, c := range cases {
		n := len(c.ids)
		for _, row := range [][]int{{1, 2, 3, 4, 5, 6}, {0, 0, 0, 0, 0, 0}, {0, 0, 0, 0, 0}} {
			checkNoPhases(t, "order", c.ids, c.rels, slices.Repeat([][]int{row}, n))
		}
		checkNoPhases(t, "order, and no weights", c.ids, c.rels, nil)
	}
	if len(cases) < 50 {
		t.Errorf("there are only %d cases", len(cases))
	}
}

// More than PhaseMax contexts are no model, with and without relations, and however many rows of weights there are.
func TestPhasesOfTooManyContexts(t *testing.T) {
	row := []int{1, 0, 2, 0, 0, 9}
	for n := range impl.ContextMax + 2 {
		ids := numbersOf(n, 1, 1)
		for _, rels := range [][]impl.Rel{nil, pathOf(ids), chain(ids)} {
			for rows := range impl.ContextMax + 2 {
				weights := slices.Repeat([][]int{row}, rows)
				if n > 4 || rows != n {
					checkNoPhases(t, "too many contexts or rows", ids, rels, weights)
				} else if !impl.PhaseValid(ids, rels, weights) || impl.PhaseTotal(ids, rels, weights) < 1 {
					t.Errorf("PhaseValid(%v, %v, %v) is false", ids, rels, weights)
				}
			}
		}
	}
}

// Rows of weights that are too short or too long, and weights out of range, make a model invalid, wherever they stand.
func TestPhasesOfInvalidWeights(t *testing.T) {
	for n := 1; n <= 4; n++ {
		ids := numbersOf(n, 1, 1)
		for _, rels := range [][]impl.Rel{nil, pathOf(ids), chain(ids)} {
			for i := range n {
				for _, length := range []int{0, 1, 4, 5, 7, 8, 12, 100} {
					weights := slices.Repeat([][]int{{1, 2, 3, 4, 5, 6}}, n)
					weights[i] = make([]int, length)
					checkNoPhases(t, "length of a row", ids, rels, weights)
				}
				for year := range 6 {
					for _, wrong := range []int{-1, 10, -9, 100, math.MinInt, math.MaxInt} {
						weights := slices.Repeat([][]int{{0, 2, 0, 4, 5, 9}}, n)
						weights[i] = slices.Clone(weights[i])
						weights[i][year] = wrong
						checkNoPhases(t, "weight", ids, rels, weights)
					}
				}
			}
		}
	}
	one := []int{1}
	for name, weights := range map[string][][]int{
		"no rows":                   nil,
		"an empty row":              {{}},
		"a nil row":                 {nil},
		"a row too many":            weightsOf("111111 111111"),
		"an empty row too many":     {{1, 1, 1, 1, 1, 1}, {}},
		"half a row, twice":         weightsOf("111 111"),
		"a weight too many":         weightsOf("1111111"),
		"a weight of 0 too many":    weightsOf("1111110"),
		"a weight too few":          weightsOf("11111"),
		"all weights below 0":       {{-1, -1, -1, -1, -1, -1}},
		"all weights too great":     {{10, 10, 10, 10, 10, 10}},
		"below 0 and above, evenly": {{-1, 10, -1, 10, -1, 10}},
	} {
		checkNoPhases(t, name, one, nil, weights)
	}
	checkNoPhases(t, "a row without contexts", nil, nil, weightsOf("111111"))
	checkNoPhases(t, "an empty row without contexts", nil, nil, [][]int{{}})
	two := []int{1, 2}
	checkNoPhases(t, "7 and 5 weights", two, nil, weightsOf("1111111 11111"))
	checkNoPhases(t, "5 and 7 weights", two, nil, weightsOf("11111 1111111"))
}

// For each weight from below 0 on, a model is valid exactly up to WeightMax.
func TestPhaseValidForEachWeight(t *testing.T) {
	for weight := -20; weight <= 300; weight++ {
		want := weight >= 0 && weight <= 9
		for place := range 12 {
			weights := weightsOf("123456 000000")
			weights[place/6][place%6] = weight
			if impl.PhaseValid([]int{4, 8}, nil, weights) != want {
				t.Errorf("PhaseValid with the weight %d is %v", weight, !want)
			}
		}
	}
}

// A context that is not there has no share, no quantile, and comes before none.
func TestPhasesOfMissingContext(t *testing.T) {
	for _, c := range phaseCases() {
		for _, id := range append(missing(c.ids), notIds()...) {
			for _, year := range []int{0, 5} {
				if got := impl.PhaseShare(c.ids, c.rels, c.weights, id, year); got != -1 {
					t.Fatalf("PhaseShare(%v, %v, %v, %d, %d) returned %d", c.ids, c.rels, c.weights, id, year, got)
				}
			}
			if got := quantileOf(c, id, 1, 2); got != -1 {
				t.Fatalf("PhaseQuantile(%v, %v, %v, %d, 1, 2) returned %d", c.ids, c.rels, c.weights, id, got)
			}
			for _, other := range append([]int{id}, c.ids...) {
				if a, b := beforeOf(c, id, other), beforeOf(c, other, id); a != -1 || b != -1 {
					t.Fatalf("PhaseBefore(%v, %v, %v) of %d and %d returned %d and %d", c.ids, c.rels, c.weights, id, other, a, b)
				}
			}
		}
	}
}

// There is no share in a year out of range, although there is a year with weight.
func TestPhaseShareOfYearsOutOfRange(t *testing.T) {
	for k, c := range phaseCases() {
		if k%10 != 0 {
			continue
		}
		for _, id := range c.ids {
			for _, year := range []int{-1, -2, -6, 6, 7, 12, 100, 999, math.MinInt, math.MaxInt} {
				if got := impl.PhaseShare(c.ids, c.rels, c.weights, id, year); got != -1 {
					t.Fatalf("PhaseShare(%v, %v, %v, %d, %d) returned %d", c.ids, c.rels, c.weights, id, year, got)
				}
			}
		}
	}
}

// There is a quantile exactly for den from 1 to 100 and num from 1 to den.
func TestPhaseQuantileOfPartsOutOfRange(t *testing.T) {
	numbers := []int{math.MinInt, -100, -2, -1, 0, 1, 2, 3, 6, 50, 98, 99, 100, 101, 102, 200, 1 << 32, math.MaxInt - 1, math.MaxInt}
	for k, c := range phaseCases() {
		if k%40 != 0 || totalOf(c) == 0 {
			continue
		}
		for _, id := range c.ids {
			for _, den := range numbers {
				for _, num := range append(numbers, den-1, den+1) {
					want := den >= 1 && den <= 100 && num >= 1 && num <= den
					if got := quantileOf(c, id, num, den); (got >= 0) != want || got < -1 {
						t.Fatalf("PhaseQuantile(%v, %v, %v, %d, %d, %d) returned %d", c.ids, c.rels, c.weights, id, num, den, got)
					}
				}
			}
		}
	}
}

// phaseResults returns what all functions of the chapter return for arguments, valid or not.
func phaseResults(ids []int, rels []impl.Rel, weights [][]int) []int {
	results := []int{impl.PhaseTotal(ids, rels, weights)}
	if impl.PhaseValid(ids, rels, weights) {
		results = append(results, 1)
	}
	for _, a := range append(slices.Clone(ids), 0) {
		for year := range 7 {
			results = append(results, impl.PhaseShare(ids, rels, weights, a, year))
		}
		results = append(results,
			impl.PhaseQuantile(ids, rels, weights, a, 1, 2), impl.PhaseQuantile(ids, rels, weights, a, 99, 100),
			impl.PhaseQuantile(ids, rels, weights, a, 0, 0))
		for _, b := range ids {
			results = append(results, impl.PhaseBefore(ids, rels, weights, a, b))
		}
	}
	return results
}

// phaseMemoryCases returns valid and invalid arguments.
func phaseMemoryCases() []phaseCase {
	var cases []phaseCase
	for k, c := range phaseCases() {
		if k%8 != 0 {
			continue
		}
		cases = append(cases, c)
		if len(c.ids) > 0 {
			long, wrong := cloneRows(c.weights), cloneRows(c.weights)
			long[0] = append(long[0], 5)
			wrong[len(wrong)-1][5] = 10
			cases = append(cases, c.with(long), c.with(wrong), c.with(c.weights[1:]))
		}
	}
	for _, g := range invalidPhaseOrders() {
		cases = append(cases, phaseCase{g, slices.Repeat([][]int{{1, 2, 3, 4, 5, 6}}, len(g.ids)), nil})
	}
	five := numbersOf(5, 1, 1)
	return append(cases, phaseCase{groupCase{five, pathOf(five)}, slices.Repeat([][]int{{1, 2, 3, 4, 5, 6}}, 5), nil})
}

// No function of the chapter changes an argument, and each one answers the same when it is called again.
func TestPhasesChangeNothing(t *testing.T) {
	for _, c := range phaseMemoryCases() {
		arguments := dateArguments{"phases", c.ids, c.rels, nil}
		if !unchanged(arguments, func(a dateArguments) {
			want := phaseResults(c.ids, c.rels, cloneRows(c.weights))
			// What stands behind a row is not read, either.
			if !unchangedRows(c.weights, []int{-7, 0, 7}, func(weights [][]int) {
				for range 2 {
					if got := phaseResults(a.ids, a.rels, weights); !slices.Equal(got, want) {
						t.Fatalf("%v, %v, %v: the results are %v, and then %v", c.ids, c.rels, weights, want, got)
					}
				}
			}) {
				t.Fatalf("%v, %v, %v: the weights are changed", c.ids, c.rels, c.weights)
			}
		}) {
			t.Fatalf("%v, %v, %v: the contexts or the relations are changed", c.ids, c.rels, c.weights)
		}
	}
}

// The same row can be that of several contexts.
func TestPhasesOfOneRowSeveralTimes(t *testing.T) {
	row := []int{0, 3, 1, 0, 9, 2}
	for n := range 5 {
		ids := numbersOf(n, 1, 1)
		shared := slices.Repeat([][]int{row}, n)
		for _, rels := range [][]impl.Rel{nil, pathOf(ids), chain(ids)} {
			first, second := phaseResults(ids, rels, shared), phaseResults(ids, rels, cloneRows(shared))
			if !slices.Equal(first, second) {
				t.Errorf("%v, %v: the results are %v, but %v with separate rows", ids, rels, first, second)
			}
		}
	}
}

// Calls at the same time, of the same model and of others, do not disturb each other.
func TestPhasesAtTheSameTime(t *testing.T) {
	cases := phaseMemoryCases()
	var want [][]int
	for _, c := range cases {
		want = append(want, phaseResults(c.ids, c.rels, c.weights))
	}
	var running sync.WaitGroup
	for worker := range 8 {
		running.Go(func() {
			for i := range cases {
				// Half of the workers come from the other end.
				k := i
				if worker%2 == 0 {
					k = len(cases) - 1 - i
				}
				if got := phaseResults(cases[k].ids, cases[k].rels, cases[k].weights); !slices.Equal(got, want[k]) {
					t.Errorf("%v, %v, %v: the results are %v, not %v", cases[k].ids, cases[k].rels, cases[k].weights, got, want[k])
					return
				}
			}
		})
	}
	running.Wait()
}
