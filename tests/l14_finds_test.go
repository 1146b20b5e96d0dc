package tests

import (
	"math"
	"math/rand"
	"slices"
	"sync"
	"testing"

	"loop.example/excavation/impl"
)

// findCase has valid arguments of the functions of chapter 14, and the groups and the order of their contexts.
type findCase struct {
	dateCase
	finds []impl.Find
}

// find is a find of a type, made in a year, of a context.
func find(id, kind, year int) impl.Find {
	return impl.Find{Context: id, Type: kind, Year: year}
}

// findsOf returns finds of one type in a context that were made in some years.
func findsOf(id int, years ...int) []impl.Find {
	var list []impl.Find
	for _, year := range years {
		list = append(list, find(id, 3, year))
	}
	return list
}

// findEach returns a find of one year in each of some contexts.
func findEach(ids []int, year int) []impl.Find {
	var list []impl.Find
	for _, id := range ids {
		list = append(list, find(id, 3, year))
	}
	return list
}

// yearsOf returns the years of the finds of a context.
func yearsOf(list []impl.Find, id int) []int {
	var years []int
	for _, f := range list {
		if f.Context == id {
			years = append(years, f.Year)
		}
	}
	return years
}

// withFinds returns the contexts that have finds, each once and in ascending order.
func withFinds(list []impl.Find) []int {
	var ids []int
	for id := 1; id <= impl.IdMax; id++ {
		if len(yearsOf(list, id)) > 0 {
			ids = append(ids, id)
		}
	}
	return ids
}

// missing returns the numbers that contexts could have, but for those of some contexts.
func missing(ids []int) []int {
	return slices.DeleteFunc(numbersOf(impl.IdMax, 1, 1), func(id int) bool { return slices.Contains(ids, id) })
}

// randomFinds returns n finds of some contexts, made in some years.
func randomFinds(random *rand.Rand, n int, ids, years []int) []impl.Find {
	var list []impl.Find
	for range n {
		list = append(list, find(ids[random.Intn(len(ids))], 1+random.Intn(impl.TypeMax), years[random.Intn(len(years))]))
	}
	return list
}

// someFinds returns valid finds of each number, of few contexts and of many; they are the same in each run.
var someFinds = sync.OnceValue(func() [][]impl.Find {
	random := rand.New(rand.NewSource(14))
	var lists [][]impl.Find
	for k := range 40 {
		for n := 1; n <= impl.FindMax; n++ {
			ids := shuffled(random, numbersOf(impl.IdMax, 1, 1))[:1+k]
			years := []int{0, 999, random.Intn(1000), random.Intn(1000), random.Intn(1000)}
			lists = append(lists, randomFinds(random, n, ids, years))
		}
	}
	return lists
})

// validFinds returns valid finds of each number.
func validFinds() [][]impl.Find {
	lists := [][]impl.Find{
		nil,
		{},
		{find(1, 1, 0)},
		{find(impl.IdMax, impl.TypeMax, impl.YearMax)},
		{find(5, 3, 100), find(5, 3, 100)},
		{find(5, 5, 300), find(4, 1, 200), find(5, 2, 100)},
		slices.Repeat([]impl.Find{find(42, 2, 10)}, impl.FindMax),
		findEach(numbersOf(impl.FindMax, 99, -5), 7),
	}
	for _, e := range findBoundsExamples() {
		lists = append(lists, e.list)
	}
	return append(lists, someFinds()...)
}

// notFinds returns invalid finds, by what is wrong with them.
func notFinds() map[string]impl.Find {
	return map[string]impl.Find{
		"zero value":        {},
		"context 0":         find(0, 3, 100),
		"context -1":        find(-1, 3, 100),
		"context 100":       find(impl.IdMax+1, 3, 100),
		"least context":     find(math.MinInt, 3, 100),
		"greatest context":  find(math.MaxInt, 3, 100),
		"no type":           find(5, 0, 100),
		"type -1":           find(5, -1, 100),
		"type 6":            find(5, impl.TypeMax+1, 100),
		"least type":        find(5, math.MinInt, 100),
		"greatest type":     find(5, math.MaxInt, 100),
		"year -1":           find(5, 3, -1),
		"year 1000":         find(5, 3, impl.YearMax+1),
		"least year":        find(5, 3, math.MinInt),
		"greatest year":     find(5, 3, math.MaxInt),
		"no type, year 0":   find(5, 0, 0),
		"type of another":   find(7, 6, 100),
		"year of another":   find(7, 3, 1000),
		"far context, type": find(50, 0, 100),
		"far context, year": find(50, 1, 1000),
	}
}

// invalidFinds returns invalid lists: an invalid find alone, in front of, between and behind others, and too many finds.
func invalidFinds() [][]impl.Find {
	lists := [][]impl.Find{
		slices.Repeat([]impl.Find{find(5, 3, 100)}, impl.FindMax+1),
		append(slices.Repeat([]impl.Find{find(5, 3, 100)}, impl.FindMax), find(6, 1, 999)),
		append([]impl.Find{find(6, 1, 999)}, slices.Repeat([]impl.Find{find(5, 3, 100)}, impl.FindMax)...),
		append(slices.Repeat([]impl.Find{find(50, 3, 100)}, impl.FindMax), find(5, 1, 999)),
		slices.Repeat([]impl.Find{find(7, 3, 100)}, 1000),
	}
	for _, f := range notFinds() {
		full := slices.Repeat([]impl.Find{find(5, 3, 100)}, impl.FindMax-1)
		lists = append(lists,
			[]impl.Find{f},
			[]impl.Find{f, find(5, 3, 100)},
			[]impl.Find{find(5, 3, 100), f},
			[]impl.Find{find(6, 1, 999), f, find(5, 3, 0), find(7, 2, 500)},
			append(full, f),
			append([]impl.Find{f}, full...),
		)
	}
	return lists
}

// findCases returns cases with finds of each number, made in years at the limits of bounds, just behind them, and in others:
// finds of the contexts alone, and finds of other contexts among them. They are the same in each run.
var findCases = sync.OnceValue(func() []findCase {
	random := rand.New(rand.NewSource(140))
	var cases []findCase
	for k, c := range dateCases() {
		years := []int{0, 999, random.Intn(1000), random.Intn(1000)}
		for _, b := range c.bounds {
			years = append(years, b.Low, b.High, min(999, b.High+1))
		}
		others := shuffled(random, missing(c.ids))[:1+random.Intn(10)]
		if k%20 == 0 {
			cases = append(cases, findCase{c, nil}, findCase{c, randomFinds(random, impl.FindMax, others, years)})
		}
		if len(c.ids) > 0 {
			n := 1 + random.Intn(impl.FindMax)
			mixed := slices.Concat(c.ids, others)
			cases = append(cases, findCase{c, randomFinds(random, n, c.ids, years)}, findCase{c, randomFinds(random, n, mixed, years)})
		}
	}
	return cases
})

// fits reports whether years fit the bounds of a case.
func (c findCase) fits() bool {
	return expectedBlame(c.dateCase) == nil
}

// own returns the places of the finds that are those of the contexts of a case.
func (c findCase) own() []int {
	var places []int
	for i, f := range c.finds {
		if c.place(f.Context) >= 0 {
			places = append(places, i)
		}
	}
	return places
}

// expectedBounds returns the bounds of finds, found in another way: each number is asked for the years of its finds.
func expectedBounds(list []impl.Find) ([]impl.Bound, bool) {
	var bounds []impl.Bound
	for _, id := range withFinds(list) {
		bounds = append(bounds, bound(id, slices.Max(yearsOf(list, id)), 999))
	}
	if len(bounds) > 12 {
		return nil, false
	}
	return bounds, true
}

// expectedTable returns the numbers of finds, found in another way: each context and each type is counted alone.
func expectedTable(ids []int, list []impl.Find) [][]int {
	var rows [][]int
	for _, id := range ids {
		var row []int
		for kind := 1; kind <= 5; kind++ {
			n := 0
			for _, f := range list {
				if f.Context == id && f.Type == kind {
					n++
				}
			}
			row = append(row, n)
		}
		rows = append(rows, row)
	}
	return rows
}

// expectedLate returns the places of late finds, found in another way: each find is held against the last years of all
// bounds of contexts that are equal to its own one, or lie above it.
func expectedLate(c findCase) []int {
	var late []int
	for _, i := range c.own() {
		f := c.finds[i]
		if c.fits() && slices.ContainsFunc(c.bounds, func(b impl.Bound) bool {
			return f.Year > b.High && c.notBelow(c.place(b.Context), c.place(f.Context))
		}) {
			late = append(late, i)
		}
	}
	return late
}

// expectedOld returns the places of old finds, found in another way: each two finds are compared.
func expectedOld(c findCase) []int {
	var old []int
	for _, i := range c.own() {
		if slices.ContainsFunc(c.own(), func(j int) bool {
			return c.order[c.place(c.finds[i].Context)][c.place(c.finds[j].Context)] && c.finds[j].Year > c.finds[i].Year
		}) {
			old = append(old, i)
		}
	}
	return old
}

// lateOf returns what FindsLate returns for a case.
func lateOf(c findCase) []int {
	return impl.FindsLate(c.ids, c.rels, c.bounds, c.finds)
}

// oldOf returns what FindsOld returns for a case.
func oldOf(c findCase) []int {
	return impl.FindsOld(c.ids, c.rels, c.finds)
}

// tableOf returns what FindsTable returns for valid arguments, for which it must not fail.
func tableOf(t *testing.T, ids []int, list []impl.Find) [][]int {
	t.Helper()
	table, ok := impl.FindsTable(ids, list)
	if !ok || len(table) != len(ids) {
		t.Fatalf("FindsTable(%v, %v) returned %v, %v", ids, list, table, ok)
	}
	return table
}

func TestFindConstants(t *testing.T) {
	if got := []int{impl.FindMax, impl.TypeMax}; !slices.Equal(got, []int{20, 5}) {
		t.Errorf("the constants are %v", got)
	}
}

func TestFindsValid(t *testing.T) {
	for _, list := range validFinds() {
		if !impl.FindsValid(list) {
			t.Errorf("FindsValid(%v) is false", list)
		}
	}
	for _, list := range invalidFinds() {
		if impl.FindsValid(list) {
			t.Errorf("FindsValid(%v) is true", list)
		}
	}
	for n := range 25 {
		if got := impl.FindsValid(slices.Repeat([]impl.Find{find(5, 3, 100)}, n)); got != (n <= 20) {
			t.Errorf("FindsValid of %d finds is %v", n, got)
		}
	}
}

func TestFindsValidForEachLimit(t *testing.T) {
	for id := -2; id <= impl.IdMax+3; id++ {
		for kind := -2; kind <= impl.TypeMax+3; kind++ {
			for _, year := range []int{-1000, -2, -1, 0, 1, 500, 998, 999, 1000, 1001, 2000} {
				f := find(id, kind, year)
				want := id >= 1 && id <= 99 && kind >= 1 && kind <= 5 && year >= 0 && year <= 999
				if impl.FindsValid([]impl.Find{f}) != want || impl.FindsValid([]impl.Find{find(1, 1, 0), f}) != want {
					t.Fatalf("FindsValid of %v is %v", f, !want)
				}
				if _, ok := impl.FindsBounds([]impl.Find{f}); ok != want {
					t.Fatalf("FindsBounds of %v returned %v", f, ok)
				}
			}
		}
	}
}

// Promise 77: without any one find they stay valid; with one of no type they are not, wherever it is.
func TestFindsWithoutOneAndWithOneOfNoType(t *testing.T) {
	for _, list := range validFinds() {
		for i, f := range list {
			if rest := without(list, i); !impl.FindsValid(rest) {
				t.Fatalf("FindsValid(%v) is false", rest)
			}
			for _, kind := range []int{0, -1, 6, math.MinInt, math.MaxInt} {
				f.Type = kind
				wrong, longer := slices.Clone(list), slices.Insert(slices.Clone(list), i, f)
				wrong[i] = f
				if impl.FindsValid(wrong) || impl.FindsValid(longer) {
					t.Fatalf("FindsValid(%v) or FindsValid(%v) is true", wrong, longer)
				}
			}
		}
	}
}

// findBoundsExample has finds, and the bounds of their contexts.
type findBoundsExample struct {
	list   []impl.Find
	bounds []impl.Bound
}

// findBoundsExamples returns the cases that the document names, written out.
func findBoundsExamples() map[string]findBoundsExample {
	from := func(id, year int) impl.Bound { return bound(id, year, 999) }
	twelve := numbersOf(impl.BoundMax, 12, -1)
	var bounds []impl.Bound
	for id := 1; id <= impl.BoundMax; id++ {
		bounds = append(bounds, from(id, 300))
	}
	return map[string]findBoundsExample{
		"no finds":                 {nil, nil},
		"empty list":               {[]impl.Find{}, nil},
		"one find":                 {findsOf(5, 300), []impl.Bound{from(5, 300)}},
		"the year 0":               {findsOf(5, 0), []impl.Bound{from(5, 0)}},
		"the year 0 twice":         {findsOf(5, 0, 0), []impl.Bound{from(5, 0)}},
		"YearMax":                  {findsOf(5, 999), []impl.Bound{from(5, 999)}},
		"0 and YearMax":            {findsOf(5, 0, 999, 0), []impl.Bound{from(5, 999)}},
		"0 and YearMax, others":    {append(findsOf(9, 0), findsOf(8, 999)...), []impl.Bound{from(8, 999), from(9, 0)}},
		"least and greatest":       {append(findsOf(99, 5), findsOf(1, 6)...), []impl.Bound{from(1, 6), from(99, 5)}},
		"several, ascending":       {findsOf(5, 100, 200, 300), []impl.Bound{from(5, 300)}},
		"several, descending":      {findsOf(5, 300, 200, 100), []impl.Bound{from(5, 300)}},
		"several, in between":      {findsOf(5, 100, 340, 200), []impl.Bound{from(5, 340)}},
		"several of one year":      {findsOf(5, 250, 250, 250), []impl.Bound{from(5, 250)}},
		"the greatest twice":       {findsOf(5, 250, 10, 250, 0), []impl.Bound{from(5, 250)}},
		"different types":          {[]impl.Find{find(5, 1, 100), find(5, 5, 300), find(5, 2, 200)}, []impl.Bound{from(5, 300)}},
		"the same find twice":      {[]impl.Find{find(5, 1, 100), find(5, 1, 100)}, []impl.Bound{from(5, 100)}},
		"two of one year":          {append(findsOf(6, 100), findsOf(5, 100)...), []impl.Bound{from(5, 100), from(6, 100)}},
		"ascending contexts":       {[]impl.Find{find(3, 1, 30), find(4, 1, 20), find(5, 1, 10)}, []impl.Bound{from(3, 30), from(4, 20), from(5, 10)}},
		"descending contexts":      {[]impl.Find{find(5, 1, 10), find(4, 1, 20), find(3, 1, 30)}, []impl.Bound{from(3, 30), from(4, 20), from(5, 10)}},
		"contexts in turns":        {[]impl.Find{find(9, 1, 10), find(2, 1, 40), find(9, 1, 30), find(2, 1, 20)}, []impl.Bound{from(2, 40), from(9, 30)}},
		"in turns, back":           {[]impl.Find{find(2, 1, 20), find(9, 1, 30), find(2, 1, 40), find(9, 1, 10)}, []impl.Bound{from(2, 40), from(9, 30)}},
		"FindMax of one":           {slices.Repeat(findsOf(5, 7, 8), impl.FindMax/2), []impl.Bound{from(5, 8)}},
		"FindMax of two":           {slices.Repeat([]impl.Find{find(7, 1, 3), find(5, 2, 4)}, impl.FindMax/2), []impl.Bound{from(5, 4), from(7, 3)}},
		"BoundMax contexts":        {findEach(twelve, 300), bounds},
		"BoundMax, FindMax finds":  {append(findEach(twelve, 300), findEach(twelve[:8], 299)...), bounds},
		"BoundMax, one often":      {append(findEach(twelve, 300), slices.Repeat(findsOf(4, 300), 8)...), bounds},
		"BoundMax, one often, too": {append(slices.Repeat(findsOf(4, 0), 8), findEach(twelve, 300)...), bounds},
	}
}

func TestFindsBoundsExamples(t *testing.T) {
	for name, e := range findBoundsExamples() {
		if got, ok := impl.FindsBounds(e.list); !ok || !slices.Equal(got, e.bounds) {
			t.Errorf("%s: FindsBounds(%v) returned %v, %v, not %v", name, e.list, got, ok, e.bounds)
		}
	}
}

// As many contexts as BoundMax allows can have finds, and no more, however many finds each one has.
func TestFindsBoundsAtLimit(t *testing.T) {
	for n := 1; n <= impl.FindMax; n++ {
		for _, ids := range [][]int{numbersOf(n, 1, 1), numbersOf(n, 99, -1), numbersOf(n, 4, 5)} {
			once := findEach(ids, 300)
			often := slices.Concat(once, slices.Repeat(findsOf(ids[0], 500), impl.FindMax-n))
			for _, list := range [][]impl.Find{once, often} {
				if got, ok := impl.FindsBounds(list); ok != (n <= 12) || ok && len(got) != n || !ok && len(got) != 0 {
					t.Fatalf("FindsBounds(%v) of %d contexts returned %v, %v", list, n, got, ok)
				}
			}
		}
	}
}

// Promises 70 and 71: a bound for each context with finds, in ascending order, which is FindBound of their years.
func TestFindsBounds(t *testing.T) {
	several, failed := 0, 0
	for _, list := range validFinds() {
		got, ok := impl.FindsBounds(list)
		if want, fine := expectedBounds(list); ok != fine || !slices.Equal(got, want) {
			t.Fatalf("FindsBounds(%v) returned %v, %v, not %v", list, got, ok, want)
		}
		if !ok {
			failed++
			continue
		}
		var ids []int
		for _, b := range got {
			ids = append(ids, b.Context)
			if alone, fine := impl.FindBound(b.Context, yearsOf(list, b.Context)); !fine || alone != b {
				t.Fatalf("FindsBounds(%v) returned %v, but FindBound %v", list, b, alone)
			}
		}
		if !slices.Equal(ids, withFinds(list)) || !impl.BoundsValid(got) {
			t.Fatalf("FindsBounds(%v) returned %v", list, got)
		}
		for _, f := range list {
			if b := got[slices.Index(ids, f.Context)]; f.Year > b.Low || b.High != 999 {
				t.Fatalf("FindsBounds(%v) returned %v, but %v is later", list, b, f)
			}
		}
		if len(got) > 2 && len(list) > len(got) {
			several++
		}
	}
	if several < 100 || failed < 50 {
		t.Errorf("only %d lists have several finds of contexts, and %d those of too many", several, failed)
	}
}

// Finds in any order have the same bounds and the same table.
func TestFindsInAnyOrder(t *testing.T) {
	random := rand.New(rand.NewSource(141))
	for _, list := range validFinds() {
		back := slices.Clone(list)
		slices.Reverse(back)
		mixed := slices.Clone(list)
		random.Shuffle(len(mixed), func(i, j int) { mixed[i], mixed[j] = mixed[j], mixed[i] })
		for _, other := range [][]impl.Find{back, mixed} {
			if !impl.FindsValid(other) {
				t.Fatalf("FindsValid(%v) is false", other)
			}
			bounds, ok := impl.FindsBounds(list)
			if got, fine := impl.FindsBounds(other); ok != fine || !slices.Equal(got, bounds) {
				t.Fatalf("FindsBounds(%v) returned %v, %v, but %v, %v before", other, got, fine, bounds, ok)
			}
			ids := withFinds(list)
			table, ok := impl.FindsTable(ids, list)
			if got, fine := impl.FindsTable(ids, other); ok != fine || !sameRows(got, table) {
				t.Fatalf("FindsTable(%v, %v) returned %v, %v, but %v, %v before", ids, other, got, fine, table, ok)
			}
		}
	}
}

func TestFindsTableExamples(t *testing.T) {
	none := []int{0, 0, 0, 0, 0}
	examples := map[string]struct {
		ids  []int
		list []impl.Find
		want [][]int
	}{
		"no contexts":         {nil, nil, nil},
		"empty lists":         {[]int{}, []impl.Find{}, nil},
		"no finds":            {[]int{3, 7}, nil, [][]int{none, none}},
		"one find":            {[]int{7}, []impl.Find{find(7, 3, 100)}, [][]int{{0, 0, 1, 0, 0}}},
		"the first type":      {[]int{7}, []impl.Find{find(7, 1, 100)}, [][]int{{1, 0, 0, 0, 0}}},
		"the last type":       {[]int{7}, []impl.Find{find(7, 5, 100)}, [][]int{{0, 0, 0, 0, 1}}},
		"the year 0":          {[]int{7}, []impl.Find{find(7, 2, 0)}, [][]int{{0, 1, 0, 0, 0}}},
		"YearMax":             {[]int{7}, []impl.Find{find(7, 4, 999)}, [][]int{{0, 0, 0, 1, 0}}},
		"all types":           {[]int{7}, []impl.Find{find(7, 5, 1), find(7, 4, 2), find(7, 1, 3), find(7, 2, 4), find(7, 3, 5)}, [][]int{{1, 1, 1, 1, 1}}},
		"several of one type": {[]int{7}, []impl.Find{find(7, 2, 1), find(7, 2, 2), find(7, 3, 5), find(7, 2, 3)}, [][]int{{0, 3, 1, 0, 0}}},
		"several of one year": {[]int{7}, []impl.Find{find(7, 2, 1), find(7, 4, 1), find(7, 4, 1)}, [][]int{{0, 1, 0, 2, 0}}},
		"the same find twice": {[]int{7}, []impl.Find{find(7, 2, 1), find(7, 2, 1)}, [][]int{{0, 2, 0, 0, 0}}},
		"two contexts":        {[]int{3, 7}, []impl.Find{find(7, 2, 1), find(3, 2, 1), find(7, 5, 1)}, [][]int{{0, 1, 0, 0, 0}, {0, 1, 0, 0, 1}}},
		"one has none":        {[]int{3, 5, 7}, []impl.Find{find(7, 2, 1), find(3, 1, 1)}, [][]int{{1, 0, 0, 0, 0}, none, {0, 1, 0, 0, 0}}},
		"the first has none":  {[]int{1, 99}, []impl.Find{find(99, 1, 1)}, [][]int{none, {1, 0, 0, 0, 0}}},
		"the last has none":   {[]int{1, 99}, []impl.Find{find(1, 1, 1)}, [][]int{{1, 0, 0, 0, 0}, none}},
		"FindMax finds": {
			[]int{3, 5, 7}, slices.Repeat([]impl.Find{find(7, 1, 9), find(3, 5, 8), find(7, 2, 7), find(7, 1, 6)}, 5),
			[][]int{{0, 0, 0, 0, 5}, none, {10, 5, 0, 0, 0}},
		},
		"FindMax of one type": {[]int{7}, slices.Repeat([]impl.Find{find(7, 4, 9)}, impl.FindMax), [][]int{{0, 0, 0, 20, 0}}},
	}
	for name, e := range examples {
		if got, ok := impl.FindsTable(e.ids, e.list); !ok || !sameRows(got, e.want) {
			t.Errorf("%s: FindsTable(%v, %v) returned %v, %v, not %v", name, e.ids, e.list, got, ok, e.want)
		}
	}
}

// tableIds returns contexts that have all of some finds: these alone, and others beside them.
func tableIds(random *rand.Rand, list []impl.Find) [][]int {
	ids := withFinds(list)
	if len(ids) > impl.ContextMax {
		return nil
	}
	others := shuffled(random, missing(ids))
	more := slices.Concat(ids, others[:random.Intn(impl.ContextMax-len(ids)+1)])
	full := slices.Concat(ids, others[:impl.ContextMax-len(ids)])
	slices.Sort(more)
	slices.Sort(full)
	return [][]int{ids, more, full}
}

// Promise 72: each number is that of the finds of its context and its type, and all of them are the number of finds.
func TestFindsTable(t *testing.T) {
	random := rand.New(rand.NewSource(142))
	tables := 0
	for _, list := range validFinds() {
		for _, ids := range tableIds(random, list) {
			table := tableOf(t, ids, list)
			if want := expectedTable(ids, list); !sameRows(table, want) {
				t.Fatalf("FindsTable(%v, %v) returned %v, not %v", ids, list, table, want)
			}
			sum := 0
			for _, row := range table {
				for _, n := range row {
					sum += n
				}
			}
			if sum != len(list) {
				t.Fatalf("FindsTable(%v, %v) returned %v, which is %d finds", ids, list, table, sum)
			}
			tables++
		}
	}
	if tables < 1000 {
		t.Errorf("only %d tables were made", tables)
	}
}

// Promise 73: it is the same with the first find as the last one, also again and again.
func TestFindsTableWithFirstAsLast(t *testing.T) {
	random := rand.New(rand.NewSource(143))
	for _, list := range validFinds() {
		for _, ids := range tableIds(random, list) {
			want := tableOf(t, ids, list)
			for i := range list {
				turned := slices.Concat(list[i:], list[:i])
				if got := tableOf(t, ids, turned); !sameRows(got, want) {
					t.Fatalf("FindsTable(%v, %v) returned %v, not %v", ids, turned, got, want)
				}
			}
		}
	}
}

// A find of another context makes FindsTable fail, wherever it is; so does each context with finds that is not asked for.
func TestFindsTableOfOtherContexts(t *testing.T) {
	random := rand.New(rand.NewSource(144))
	for _, list := range validFinds() {
		for _, ids := range tableIds(random, list) {
			for i, id := range ids {
				got, ok := impl.FindsTable(without(ids, i), list)
				if want := len(yearsOf(list, id)) == 0; ok != want || !ok && len(got) != 0 {
					t.Fatalf("FindsTable(%v, %v) returned %v, %v", without(ids, i), list, got, ok)
				}
			}
			if len(list) == impl.FindMax {
				continue
			}
			for i := range len(list) + 1 {
				for _, id := range shuffled(random, missing(ids))[:5] {
					longer := slices.Insert(slices.Clone(list), i, find(id, 1+random.Intn(impl.TypeMax), random.Intn(1000)))
					if got, ok := impl.FindsTable(ids, longer); ok || len(got) != 0 {
						t.Fatalf("FindsTable(%v, %v) returned %v, %v", ids, longer, got, ok)
					}
				}
			}
		}
	}
	for id := 1; id <= impl.IdMax; id++ {
		for _, ids := range [][]int{nil, {5}, {1, 99}, {2, 3, 50, 98}} {
			if got, ok := impl.FindsTable(ids, findsOf(id, 100)); ok != slices.Contains(ids, id) || !ok && len(got) != 0 {
				t.Fatalf("FindsTable(%v) with a find of %d returned %v, %v", ids, id, got, ok)
			}
		}
	}
}

func TestFindsTableOfInvalidNumbers(t *testing.T) {
	for name, ids := range invalidIds() {
		for _, list := range [][]impl.Find{nil, {}, findsOf(1, 100), findsOf(2, 100, 200), append(findsOf(1, 5), findsOf(2, 7)...)} {
			if got, ok := impl.FindsTable(ids, list); ok || len(got) != 0 {
				t.Errorf("%s: FindsTable(%v, %v) returned %v, %v", name, ids, list, got, ok)
			}
		}
	}
	for n := range 16 {
		ids := numbersOf(n, 1, 2)
		if got, ok := impl.FindsTable(ids, nil); ok != (n <= 12) || !ok && len(got) != 0 {
			t.Errorf("FindsTable of %d contexts returned %v, %v", n, got, ok)
		}
	}
}

// Invalid finds have no bounds and no table, and none of them is late or old.
func TestFindsOfInvalidFinds(t *testing.T) {
	ids := []int{1, 5, 6, 7, 99}
	for _, list := range invalidFinds() {
		if got, ok := impl.FindsBounds(list); ok || len(got) != 0 {
			t.Errorf("FindsBounds(%v) returned %v, %v", list, got, ok)
		}
		for _, contexts := range [][]int{ids, {5, 50}, nil} {
			if got, ok := impl.FindsTable(contexts, list); ok || len(got) != 0 {
				t.Errorf("FindsTable(%v, %v) returned %v, %v", contexts, list, got, ok)
			}
		}
		for _, rels := range [][]impl.Rel{nil, pathOf(ids), pathOf([]int{99, 7, 6, 5, 1}), {above(5, 6), above(5, 7)}} {
			for _, bounds := range [][]impl.Bound{nil, {bound(5, 0, 99)}, {bound(1, 0, 0), bound(5, 0, 0), bound(6, 0, 0), bound(7, 0, 0), bound(99, 0, 0)}} {
				if got := impl.FindsLate(ids, rels, bounds, list); len(got) != 0 {
					t.Errorf("FindsLate(%v, %v, %v, %v) returned %v", ids, rels, bounds, list, got)
				}
			}
			if got := impl.FindsOld(ids, rels, list); len(got) != 0 {
				t.Errorf("FindsOld(%v, %v, %v) returned %v", ids, rels, list, got)
			}
		}
	}
}

// One invalid find, also one of another context, and one find too many leave no find late or old.
func TestFindsBesideInvalidFinds(t *testing.T) {
	late, old := 0, 0
	for k, c := range findCases() {
		if k%10 != 0 {
			continue
		}
		for _, f := range notFinds() {
			for i := range len(c.finds) + 1 {
				wrong := findCase{c.dateCase, slices.Insert(slices.Clone(c.finds), i, f)}
				if got := lateOf(wrong); len(got) != 0 {
					t.Fatalf("FindsLate(%v, %v, %v, %v) returned %v", c.ids, c.rels, c.bounds, wrong.finds, got)
				}
				if got := oldOf(wrong); len(got) != 0 {
					t.Fatalf("FindsOld(%v, %v, %v) returned %v", c.ids, c.rels, wrong.finds, got)
				}
			}
		}
		for _, id := range append(missing(c.ids)[:1], c.ids...) {
			more := findCase{c.dateCase, slices.Concat(c.finds, slices.Repeat(findsOf(id, 0), impl.FindMax+1-len(c.finds)))}
			if got, other := lateOf(more), oldOf(more); len(got) != 0 || len(other) != 0 {
				t.Fatalf("FindsLate and FindsOld returned %v and %v for the finds %v", got, other, more.finds)
			}
		}
		late, old = late+len(expectedLate(c)), old+len(expectedOld(c))
	}
	if late < 500 || old < 500 {
		t.Errorf("only %d finds are late, and %d are old, without the invalid ones", late, old)
	}
}

// findExample has relations as a text, bounds, finds, and what FindsLate or FindsOld returns for them.
type findExample struct {
	ids    []int
	text   string
	bounds []impl.Bound
	finds  []impl.Find
	want   []int
}

// lateExamples returns the cases that the document names, and the places of late finds, written out.
func lateExamples() map[string]findExample {
	two, three, four := []int{1, 2}, []int{1, 2, 3}, []int{1, 2, 3, 4}
	to := func(id, year int) []impl.Bound { return []impl.Bound{bound(id, 0, year)} }
	others := slices.Concat(findsOf(5, 999), findsOf(2, 401), findsOf(50, 0), findsOf(3, 999), findsOf(1, 401), findsOf(99, 401))
	return map[string]findExample{
		"no contexts":                    {},
		"no contexts, but finds":         {finds: findsOf(1, 0, 999)},
		"no finds":                       {two, "1>2", to(1, 0), nil, nil},
		"no bounds":                      {two, "1>2", nil, append(findsOf(1, 999), findsOf(2, 0, 999)...), nil},
		"before the last year":           {two, "", to(1, 400), findsOf(1, 399), nil},
		"the last year":                  {two, "", to(1, 400), findsOf(1, 400), nil},
		"the year behind":                {two, "", to(1, 400), findsOf(1, 401), []int{0}},
		"the year 0":                     {two, "", to(1, 0), findsOf(1, 0), nil},
		"behind the year 0":              {two, "", to(1, 0), findsOf(1, 1), []int{0}},
		"YearMax":                        {two, "", to(1, 998), findsOf(1, 999), []int{0}},
		"YearMax, up to it":              {two, "", to(1, 999), findsOf(1, 999), nil},
		"before the first year":          {two, "", []impl.Bound{bound(1, 300, 400)}, findsOf(1, 0, 299), nil},
		"each year around":               {two, "", []impl.Bound{bound(1, 300, 400)}, findsOf(1, 299, 300, 301, 399, 400, 401, 402), []int{5, 6}},
		"the bound of another":           {two, "", to(1, 400), findsOf(2, 999), nil},
		"several of one year":            {two, "", to(1, 400), findsOf(1, 401, 400, 401, 401, 0), []int{0, 2, 3}},
		"several types":                  {two, "", to(1, 400), []impl.Find{find(1, 1, 401), find(1, 2, 400), find(1, 5, 401)}, []int{0, 2}},
		"one find twice":                 {two, "", to(1, 400), []impl.Find{find(1, 1, 999), find(1, 1, 999)}, []int{0, 1}},
		"contexts in any order":          {two, "", []impl.Bound{bound(2, 0, 200), bound(1, 0, 400)}, slices.Concat(findsOf(2, 300), findsOf(1, 300), findsOf(2, 200), findsOf(1, 401)), []int{0, 3}},
		"the last year comes from above": {two, "1>2", to(1, 400), findsOf(2, 400, 401), []int{1}},
		"from far above":                 {four, "1>2 2>3 3>4", to(1, 400), findsOf(4, 401, 400, 401), []int{0, 2}},
		"from far above, mixed":          {four, "3>1 1>4 4>2", to(3, 400), slices.Concat(findsOf(2, 401), findsOf(1, 400), findsOf(4, 401), findsOf(3, 401)), []int{0, 2, 3}},
		"not from below":                 {two, "1>2", to(2, 400), findsOf(1, 999), nil},
		"not from beside":                {three, "1>2 1>3", to(2, 400), append(findsOf(3, 999), findsOf(1, 999)...), nil},
		"the least of several":           {two, "1>2", []impl.Bound{bound(1, 0, 500), bound(2, 0, 400), bound(2, 0, 600)}, slices.Concat(findsOf(2, 450), findsOf(1, 450), findsOf(2, 400)), []int{0}},
		"equal to the first":             {two, "1=2", to(1, 400), findsOf(2, 400, 401), []int{1}},
		"equal to the second":            {two, "1=2", to(2, 400), findsOf(1, 400, 401), []int{1}},
		"equal through others":           {four, "1=4 2=3 3=4", to(2, 400), slices.Concat(findsOf(1, 401), findsOf(4, 400), findsOf(3, 401)), []int{0, 2}},
		"above an equal one":             {three, "1>2 2=3", to(1, 400), findsOf(3, 401, 400), []int{0}},
		"of one equal to the upper":      {three, "1=3 1>2", to(3, 400), findsOf(2, 401, 400), []int{0}},
		"not equal, the same year":       {three, "1=2", to(1, 400), findsOf(3, 401), nil},
		"finds of other contexts":        {two, "1>2", to(1, 400), others, []int{1, 4}},
		"others alone":                   {two, "1>2", to(1, 0), append(findsOf(3, 999), findsOf(99, 999)...), nil},
		"others of no contexts":          {nil, "", nil, others, nil},
		"FindMax finds":                  {two, "1>2", to(1, 400), slices.Repeat(slices.Concat(findsOf(2, 401), findsOf(1, 0), findsOf(3, 999), findsOf(1, 400)), 5), []int{0, 4, 8, 12, 16}},
		"FindMax late finds":             {two, "1>2", to(1, 400), slices.Repeat(findsOf(2, 401), impl.FindMax), numbersOf(impl.FindMax, 0, 1)},
		"finds change no years":          {two, "1>2", to(1, 400), append(findsOf(2, 500), findsOf(1, 100, 400)...), []int{0}},
		"dates that do not fit":          {two, "", []impl.Bound{bound(1, 0, 100), bound(1, 200, 300)}, append(findsOf(1, 999), findsOf(2, 999)...), nil},
		"dates of others do not fit":     {three, "2>3", []impl.Bound{bound(1, 0, 100), bound(2, 0, 0), bound(3, 1, 9)}, append(findsOf(1, 999), findsOf(3, 999)...), nil},
		"dates of equal ones do not fit": {two, "1=2", []impl.Bound{bound(1, 0, 100), bound(2, 101, 300)}, findsOf(1, 999), nil},
		"bound of a missing context":     {two, "1>2", []impl.Bound{bound(1, 0, 100), bound(3, 0, 999)}, findsOf(1, 999), nil},
		"a bound too many":               {two, "1>2", slices.Repeat(to(1, 100), impl.BoundMax+1), findsOf(1, 999), nil},
		"BoundMax bounds":                {two, "1>2", slices.Repeat(to(1, 100), impl.BoundMax), findsOf(1, 999), []int{0}},
		"a circle":                       {three, "1>2 2>1", to(3, 100), findsOf(3, 999), nil},
		"relation of a missing context":  {two, "1>2 2>3", to(1, 100), findsOf(1, 999), nil},
		"numbers not ascending":          {[]int{2, 1}, "", to(1, 100), findsOf(1, 999), nil},
		"numbers that are not indices":   {[]int{9, 42, 99}, "99>9 9>42", to(9, 400), slices.Concat(findsOf(42, 401), findsOf(99, 401), findsOf(9, 400), findsOf(1, 401)), []int{0}},
	}
}

func TestFindsLateExamples(t *testing.T) {
	for name, e := range lateExamples() {
		if got := impl.FindsLate(e.ids, parsed(t, e.text), e.bounds, e.finds); !slices.Equal(got, e.want) {
			t.Errorf("%s: FindsLate(%v, %q, %v, %v) returned %v, not %v", name, e.ids, e.text, e.bounds, e.finds, got, e.want)
		}
	}
}

// Promise 74: exactly the finds that are later than the last year of the span, found in another way and by DatesOf.
func TestFindsLate(t *testing.T) {
	late, atLimit, failed := 0, 0, 0
	for _, c := range findCases() {
		got := lateOf(c)
		if want := expectedLate(c); !slices.Equal(got, want) {
			t.Fatalf("FindsLate(%v, %v, %v, %v) returned %v, not %v", c.ids, c.rels, c.bounds, c.finds, got, want)
		}
		spans, ok := impl.DatesOf(c.ids, c.rels, c.bounds)
		if !ok {
			failed++
			continue
		}
		for i, f := range c.finds {
			place := c.place(f.Context)
			if want := place >= 0 && f.Year > spans[place].High; slices.Contains(got, i) != want {
				t.Fatalf("FindsLate(%v, %v, %v, %v) returned %v, but the spans are %v", c.ids, c.rels, c.bounds, c.finds, got, spans)
			}
			if place >= 0 && f.Year == spans[place].High {
				atLimit++
			}
		}
		late += len(got)
	}
	if late < 5000 || atLimit < 2000 || failed < 500 {
		t.Errorf("only %d finds are late, %d are of the last year, and %d cases have no dates", late, atLimit, failed)
	}
}

// Promise 75: with the bound of a late find no years fit; with that of any other find of the contexts some do.
func TestFindsLateContradictBounds(t *testing.T) {
	late, others := 0, 0
	for _, c := range findCases() {
		if !c.fits() {
			continue
		}
		got := lateOf(c)
		for _, i := range c.own() {
			b, _ := impl.FindBound(c.finds[i].Context, []int{c.finds[i].Year})
			bounds, room := impl.BoundsAdd(c.bounds, b)
			if !room {
				continue
			}
			_, ok := impl.DatesOf(c.ids, c.rels, bounds)
			if ok == slices.Contains(got, i) {
				t.Fatalf("FindsLate(%v, %v, %v, %v) returned %v, but with %v DatesOf returned %v", c.ids, c.rels, c.bounds, c.finds, got, b, ok)
			}
			if ok {
				others++
			} else {
				late++
			}
		}
	}
	if late < 5000 || others < 5000 {
		t.Errorf("only %d bounds of late finds and %d of others were added", late, others)
	}
}

// Each year up to the last one of the span of its context is not late, and each further one is.
func TestFindsLateForEachYear(t *testing.T) {
	for k, c := range fittingCases() {
		if k%100 != 0 || len(c.ids) == 0 {
			continue
		}
		spans := datesOf(t, c)
		for i, id := range c.ids {
			for year := range 1000 {
				got := impl.FindsLate(c.ids, c.rels, c.bounds, findsOf(id, year))
				if (len(got) == 1) != (year > spans[i].High) {
					t.Fatalf("FindsLate(%v, %v, %v) of %d in the year %d returned %v", c.ids, c.rels, c.bounds, id, year, got)
				}
			}
		}
	}
}

// No find is late without dates, because the arguments are invalid or contradict each other.
func TestFindsLateOfInvalidArguments(t *testing.T) {
	for _, a := range invalidDates() {
		ids := slices.Clone(a.ids)
		for _, b := range a.bounds {
			ids = append(ids, b.Context)
		}
		ids = slices.DeleteFunc(ids, func(id int) bool { return id < 1 || id > impl.IdMax })
		all := findEach(ids[:min(len(ids), impl.FindMax)], 999)
		for _, list := range [][]impl.Find{nil, all, findsOf(1, 0, 500, 999), findsOf(5, 999)} {
			if got := impl.FindsLate(a.ids, a.rels, a.bounds, list); len(got) != 0 {
				t.Errorf("%s: FindsLate(%v, %v, %v, %v) returned %v", a.name, a.ids, a.rels, a.bounds, list, got)
			}
		}
	}
	for name, e := range blameExamples() {
		for _, year := range []int{0, 300, 999} {
			if got := impl.FindsLate(e.ids, parsed(t, e.text), e.bounds, findEach(e.ids, year)); len(got) != 0 {
				t.Errorf("%s: FindsLate of the year %d returned %v", name, year, got)
			}
		}
	}
}

// oldExamples returns the cases that the document names, and the places of old finds, written out.
func oldExamples() map[string]findExample {
	two, three, four := []int{1, 2}, []int{1, 2, 3}, []int{1, 2, 3, 4}
	others := slices.Concat(findsOf(5, 0), findsOf(1, 100), findsOf(50, 999), findsOf(2, 101), findsOf(3, 999), findsOf(1, 101), findsOf(99, 0))
	example := func(ids []int, text string, finds []impl.Find, want ...int) findExample {
		return findExample{ids, text, nil, finds, want}
	}
	return map[string]findExample{
		"no contexts":                   {},
		"no contexts, but finds":        {finds: append(findsOf(1, 0), findsOf(2, 999)...)},
		"no finds":                      example(two, "1>2", nil),
		"no relations":                  example(two, "", append(findsOf(1, 0), findsOf(2, 999)...)),
		"one find above":                example(two, "1>2", findsOf(1, 0)),
		"one find below":                example(two, "1>2", findsOf(2, 999)),
		"older above":                   example(two, "1>2", append(findsOf(1, 100), findsOf(2, 101)...), 0),
		"the same year":                 example(two, "1>2", append(findsOf(1, 100), findsOf(2, 100)...)),
		"later above":                   example(two, "1>2", append(findsOf(1, 101), findsOf(2, 100)...)),
		"older above, back":             example(two, "2>1", append(findsOf(1, 101), findsOf(2, 100)...), 1),
		"later above, back":             example(two, "2>1", append(findsOf(1, 100), findsOf(2, 101)...)),
		"the later one first":           example(two, "1>2", append(findsOf(2, 101), findsOf(1, 100)...), 1),
		"0 above 1":                     example(two, "1>2", append(findsOf(1, 0), findsOf(2, 1)...), 0),
		"0 above 0":                     example(two, "1>2", append(findsOf(1, 0), findsOf(2, 0)...)),
		"0 above YearMax":               example(two, "1>2", append(findsOf(1, 0), findsOf(2, 999)...), 0),
		"YearMax above YearMax":         example(two, "1>2", append(findsOf(1, 999), findsOf(2, 999)...)),
		"998 above YearMax":             example(two, "1>2", append(findsOf(1, 998), findsOf(2, 999)...), 0),
		"YearMax above 0":               example(two, "1>2", append(findsOf(1, 999), findsOf(2, 0)...)),
		"several above":                 example(two, "1>2", append(findsOf(1, 200, 100, 150, 149), findsOf(2, 150)...), 1, 3),
		"several below":                 example(two, "1>2", append(findsOf(2, 100, 200, 150), findsOf(1, 180)...), 3),
		"several below, none later":     example(two, "1>2", append(findsOf(2, 100, 180, 150), findsOf(1, 180)...)),
		"several of one year":           example(two, "1>2", append(findsOf(1, 100, 100, 101), findsOf(2, 101, 101)...), 0, 1),
		"in turns":                      example(two, "1>2", slices.Concat(findsOf(1, 100), findsOf(2, 50), findsOf(1, 200), findsOf(2, 150), findsOf(1, 120)), 0, 4),
		"several of one context":        example(two, "1>2", findsOf(1, 300, 200, 100)),
		"other types":                   example(two, "1>2", []impl.Find{find(1, 1, 100), find(2, 5, 101), find(1, 5, 101), find(1, 5, 99)}, 0, 3),
		"the same type":                 example(two, "1>2", []impl.Find{find(1, 1, 100), find(2, 1, 101)}, 0),
		"one find twice":                example(two, "1>2", []impl.Find{find(1, 1, 100), find(2, 1, 101), find(1, 1, 100)}, 0, 2),
		"through another":               example(three, "1>2 2>3", append(findsOf(3, 101), findsOf(1, 100)...), 1),
		"through another, all":          example(three, "1>2 2>3", slices.Concat(findsOf(3, 101), findsOf(1, 100), findsOf(2, 100)), 1, 2),
		"through another, not the next": example(three, "1>2 2>3", slices.Concat(findsOf(1, 100), findsOf(2, 90), findsOf(3, 101)), 0, 1),
		"far below":                     example(four, "3>1 1>4 4>2", append(findsOf(3, 5), findsOf(2, 6)...), 0),
		"not from above":                example(three, "1>2 2>3", append(findsOf(1, 999), findsOf(3, 0)...)),
		"not from beside":               example(three, "1>2 1>3", append(findsOf(2, 0), findsOf(3, 999)...)),
		"beside, with one above":        example(three, "1>2 1>3", slices.Concat(findsOf(2, 0), findsOf(3, 999), findsOf(1, 500)), 2),
		"the later one of two below":    example(three, "1>2 1>3", slices.Concat(findsOf(3, 90), findsOf(1, 100), findsOf(2, 101)), 1),
		"equal, no order":               example(two, "1=2", append(findsOf(1, 0), findsOf(2, 999)...)),
		"equal through others":          example(three, "1=3 2=3", slices.Concat(findsOf(1, 0), findsOf(2, 999), findsOf(3, 500))),
		"above an equal one":            example(three, "1>2 2=3", append(findsOf(1, 100), findsOf(3, 101)...), 0),
		"equal to the upper":            example(three, "1=3 1>2", append(findsOf(3, 100), findsOf(2, 101)...), 0),
		"equal to both":                 example(four, "1=3 2=4 3>2", append(findsOf(1, 100), findsOf(4, 101)...), 0),
		"through a group":               example(four, "1>2 2=4 4>3", append(findsOf(1, 100), findsOf(3, 101)...), 0),
		"of a group and below":          example(four, "1>2 2=4 4>3", slices.Concat(findsOf(2, 100), findsOf(3, 101), findsOf(4, 99)), 0, 2),
		"of a group, far":               example([]int{1, 2, 3, 4, 5}, "1=4 3=4 2=5 3>5", append(findsOf(1, 100), findsOf(2, 101)...), 0),
		"finds of other contexts":       example(two, "1>2", others, 1),
		"others alone":                  example(two, "1>2", append(findsOf(3, 0), findsOf(4, 999)...)),
		"others alone above":            example(two, "1>2", append(findsOf(3, 0), findsOf(2, 999)...)),
		"others alone below":            example(two, "1>2", append(findsOf(1, 0), findsOf(3, 999)...)),
		"others of no contexts":         example(nil, "", others),
		"FindMax finds":                 example(two, "1>2", slices.Repeat(slices.Concat(findsOf(1, 99), findsOf(2, 100), findsOf(1, 100), findsOf(3, 999)), 5), 0, 4, 8, 12, 16),
		"FindMax, the last one later":   example(two, "1>2", append(slices.Repeat(findsOf(1, 99), impl.FindMax-1), findsOf(2, 100)...), numbersOf(impl.FindMax-1, 0, 1)...),
		"a circle":                      example(three, "1>2 2>1", append(findsOf(1, 0), findsOf(2, 999)...)),
		"a circle elsewhere":            example(four, "1>2 3>4 4>3", append(findsOf(1, 0), findsOf(2, 999)...)),
		"a group above itself":          example(three, "1>2 1=2", slices.Concat(findsOf(1, 0), findsOf(2, 999))),
		"relation of a missing context": example(two, "1>2 2>3", append(findsOf(1, 0), findsOf(2, 999)...)),
		"numbers not ascending":         example([]int{2, 1}, "1>2", append(findsOf(1, 0), findsOf(2, 999)...)),
		"numbers that are not indices":  example([]int{9, 42, 99}, "99>9 9>42", slices.Concat(findsOf(42, 7), findsOf(99, 6), findsOf(9, 7), findsOf(1, 3)), 1),
	}
}

func TestFindsOldExamples(t *testing.T) {
	for name, e := range oldExamples() {
		if got := impl.FindsOld(e.ids, parsed(t, e.text), e.finds); !slices.Equal(got, e.want) {
			t.Errorf("%s: FindsOld(%v, %q, %v) returned %v, not %v", name, e.ids, e.text, e.finds, got, e.want)
		}
	}
}

// Promise 76: exactly the finds whose context lies above one with a later find, found in another way and by OrderAbove.
func TestFindsOld(t *testing.T) {
	old, far := 0, 0
	for _, c := range findCases() {
		got := oldOf(c)
		if want := expectedOld(c); !slices.Equal(got, want) {
			t.Fatalf("FindsOld(%v, %v, %v) returned %v, not %v", c.ids, c.rels, c.finds, got, want)
		}
		for i, f := range c.finds {
			reasons := slices.DeleteFunc(slices.Clone(c.finds), func(g impl.Find) bool {
				return g.Year <= f.Year || !impl.OrderAbove(c.ids, c.rels, f.Context, g.Context)
			})
			if slices.Contains(got, i) != (len(reasons) > 0) {
				t.Fatalf("FindsOld(%v, %v, %v) returned %v, but %v is held against %v", c.ids, c.rels, c.finds, got, reasons, f)
			}
			if len(reasons) > 0 && !slices.ContainsFunc(reasons, func(g impl.Find) bool {
				return slices.Contains(c.rels, above(f.Context, g.Context))
			}) {
				far++
			}
		}
		old += len(got)
	}
	if old < 5000 || far < 1000 {
		t.Errorf("only %d finds are old, and %d of them not by a relation", old, far)
	}
}

// Promise 76: all lists of up to three finds of three contexts and another one in two years, with all relations.
func TestFindsOldOfShortLists(t *testing.T) {
	var finds []impl.Find
	for _, id := range []int{8, 9, 10, 11} {
		finds = append(finds, findsOf(id, 0, 1)...)
	}
	lists := listsUpTo(finds, 3)
	three := []int{8, 9, 10}
	for _, rels := range subsets(relsWithin(three)) {
		if !impl.OrderValid(three, rels) {
			continue
		}
		base := dateCaseOf(groupCase{three, rels})
		for _, list := range lists {
			c := findCase{base, list}
			if got, want := oldOf(c), expectedOld(c); !slices.Equal(got, want) {
				t.Fatalf("FindsOld(%v, %v, %v) returned %v, not %v", three, rels, c.finds, got, want)
			}
		}
	}
}

// No find is old with a circle, or if the arguments are invalid.
func TestFindsOldOfInvalidArguments(t *testing.T) {
	for _, c := range invalidDigCases() {
		ids := slices.DeleteFunc(slices.Clone(c.ids), func(id int) bool { return id < 1 || id > impl.IdMax })
		ids = ids[:min(len(ids), impl.FindMax/2)]
		several := append(findEach(ids, 100), findEach(ids, 300)...)
		up, down := slices.Clone(several), slices.Clone(several)
		for i := range several {
			up[i].Year, down[i].Year = 100+i, 300-i
		}
		for _, list := range [][]impl.Find{nil, several, up, down, append(findsOf(1, 0), findsOf(2, 999)...)} {
			if got := impl.FindsOld(c.ids, c.rels, list); len(got) != 0 {
				t.Errorf("FindsOld(%v, %v, %v) returned %v", c.ids, c.rels, list, got)
			}
		}
	}
}

// Finds of other contexts have no influence on which finds are late or old.
func TestFindsWithoutThoseOfOthers(t *testing.T) {
	others := 0
	for _, c := range findCases() {
		own := c.own()
		rest := findCase{dateCase: c.dateCase}
		for _, i := range own {
			rest.finds = append(rest.finds, c.finds[i])
		}
		for name, call := range map[string]func(findCase) []int{"FindsLate": lateOf, "FindsOld": oldOf} {
			var want []int
			for _, i := range call(rest) {
				want = append(want, own[i])
			}
			if got := call(c); !slices.Equal(got, want) {
				t.Fatalf("%s(%v, %v, %v) of %v returned %v, and %v without other contexts", name, c.ids, c.rels, c.bounds, c.finds, got, want)
			}
		}
		others += len(c.finds) - len(own)
	}
	if others < 10000 {
		t.Errorf("only %d finds are those of other contexts", others)
	}
}

// The same finds are late and old in any order of all finds.
func TestFindsLateAndOldInAnyOrder(t *testing.T) {
	random := rand.New(rand.NewSource(145))
	for _, c := range findCases() {
		order := random.Perm(len(c.finds))
		mixed := findCase{dateCase: c.dateCase}
		for _, i := range order {
			mixed.finds = append(mixed.finds, c.finds[i])
		}
		for name, call := range map[string]func(findCase) []int{"FindsLate": lateOf, "FindsOld": oldOf} {
			want, got := call(c), call(mixed)
			if !slices.IsSorted(got) {
				t.Fatalf("%s(%v, %v, %v) of %v returned %v", name, c.ids, c.rels, c.bounds, mixed.finds, got)
			}
			for i, place := range got {
				got[i] = order[place]
			}
			slices.Sort(got)
			if !slices.Equal(got, want) {
				t.Fatalf("%s(%v, %v, %v) returned %v for %v, and %v in another order", name, c.ids, c.rels, c.bounds, want, c.finds, got)
			}
		}
	}
}

// A find of any context of a group is as late or as old as one of any other context of it.
func TestFindsOfEqualContexts(t *testing.T) {
	random := rand.New(rand.NewSource(146))
	moved := 0
	for _, c := range findCases() {
		other := findCase{c.dateCase, slices.Clone(c.finds)}
		for _, i := range c.own() {
			members := impl.GroupMembers(c.ids, c.rels, c.finds[i].Context)
			other.finds[i].Context = members[random.Intn(len(members))]
			if other.finds[i] != c.finds[i] {
				moved++
			}
		}
		for name, call := range map[string]func(findCase) []int{"FindsLate": lateOf, "FindsOld": oldOf} {
			if want, got := call(c), call(other); !slices.Equal(got, want) {
				t.Fatalf("%s(%v, %v, %v) returned %v for %v, and %v for %v", name, c.ids, c.rels, c.bounds, want, c.finds, got, other.finds)
			}
		}
	}
	if moved < 5000 {
		t.Errorf("only %d finds became those of other contexts", moved)
	}
}

// The type of a find has no influence on the bounds, and on which finds are late or old.
func TestFindsOfOtherTypes(t *testing.T) {
	random := rand.New(rand.NewSource(147))
	for _, c := range findCases() {
		other := findCase{c.dateCase, slices.Clone(c.finds)}
		for i := range other.finds {
			other.finds[i].Type = 1 + random.Intn(impl.TypeMax)
		}
		if want, got := lateOf(c), lateOf(other); !slices.Equal(got, want) {
			t.Fatalf("FindsLate(%v, %v, %v) returned %v for %v, and %v for %v", c.ids, c.rels, c.bounds, want, c.finds, got, other.finds)
		}
		if want, got := oldOf(c), oldOf(other); !slices.Equal(got, want) {
			t.Fatalf("FindsOld(%v, %v) returned %v for %v, and %v for %v", c.ids, c.rels, want, c.finds, got, other.finds)
		}
		want, ok := impl.FindsBounds(c.finds)
		if got, fine := impl.FindsBounds(other.finds); ok != fine || !slices.Equal(got, want) {
			t.Fatalf("FindsBounds returned %v for %v, and %v for %v", want, c.finds, got, other.finds)
		}
	}
}

// ContextMax contexts in a row, in many orders: a late find at the bottom, and each older find above a later one.
func TestFindsOfLongRows(t *testing.T) {
	random := rand.New(rand.NewSource(148))
	ids := numbersOf(impl.ContextMax, 4, 8)
	back := slices.Clone(ids)
	slices.Reverse(back)
	orders := [][]int{ids, back}
	for range 100 {
		orders = append(orders, shuffled(random, ids))
	}
	for _, order := range orders {
		rels, top, bottom := pathOf(order), order[0], order[len(order)-1]
		if got := impl.FindsLate(ids, rels, []impl.Bound{bound(top, 0, 400)}, findsOf(bottom, 401, 400, 999)); !slices.Equal(got, []int{0, 2}) {
			t.Fatalf("FindsLate(%v, %v) returned %v", ids, rels, got)
		}
		if got := impl.FindsLate(ids, rels, []impl.Bound{bound(bottom, 0, 400)}, findEach(order, 999)); !slices.Equal(got, []int{11}) {
			t.Fatalf("FindsLate(%v, %v) returned %v", ids, rels, got)
		}
		for n := range len(order) {
			// The find of the context at the place n is later than all others.
			finds := findEach(order, 300)
			finds[n].Year = 301
			if got := impl.FindsOld(ids, rels, finds); !slices.Equal(got, numbersOf(n, 0, 1)) {
				t.Fatalf("FindsOld(%v, %v, %v) returned %v", ids, rels, finds, got)
			}
			equal := impl.FindsOld(ids, chain(order), finds)
			late := impl.FindsLate(ids, chain(order), []impl.Bound{bound(order[n], 0, 299)}, finds)
			if len(equal) != 0 || !slices.Equal(late, numbersOf(impl.ContextMax, 0, 1)) {
				t.Fatalf("for equal contexts FindsOld returned %v, and FindsLate %v", equal, late)
			}
		}
	}
}

// allFinds returns valid and invalid finds.
func allFinds() [][]impl.Find {
	return append(validFinds(), invalidFinds()...)
}

// FindsValid and FindsBounds change no argument, and bounds share no memory.
func TestFindsBoundsShareNoMemory(t *testing.T) {
	for _, list := range allFinds() {
		room := withRoom(list, impl.FindMax)
		valid := impl.FindsValid(room)
		first, ok := impl.FindsBounds(room)
		second, again := impl.FindsBounds(room)
		want := slices.Clone(second)
		if ok != again || !slices.Equal(first, second) || impl.FindsValid(room) != valid {
			t.Fatalf("FindsBounds(%v) returned %v, and then %v", list, first, second)
		}
		overwrite(first, bound(-7, -7, -7))
		if !slices.Equal(second, want) {
			t.Fatalf("FindsBounds(%v): two results share memory", list)
		}
		if !slices.Equal(room, list) || !isZero(behind(room)) {
			t.Fatalf("%v became %v, and %v behind it", list, room, behind(room))
		}
	}
}

// The rows of FindsTable share no memory with each other, also not behind their ends, nor with an argument or another result.
func TestFindsTableSharesNoMemory(t *testing.T) {
	random := rand.New(rand.NewSource(149))
	for _, list := range allFinds() {
		for _, ids := range append(tableIds(random, list), []int{1, 5, 6, 7}, []int{2, 1}, nil) {
			room, more := withRoom(list, impl.FindMax), withRoom(ids, impl.ContextMax)
			first, _ := impl.FindsTable(more, room)
			second, _ := impl.FindsTable(more, room)
			checkSeparateRows(t, first, second, -7)
			if !slices.Equal(room, list) || !slices.Equal(more, ids) || !isZero(behind(room)) || !isZero(behind(more)) {
				t.Fatalf("FindsTable(%v, %v) shares memory with an argument", ids, list)
			}
		}
	}
}

// findArguments has arguments of the functions of chapter 14, valid or not.
type findArguments struct {
	dateArguments
	finds []impl.Find
}

// findMemoryCases returns valid and invalid arguments.
func findMemoryCases() []findArguments {
	var all []findArguments
	for _, a := range invalidDates() {
		all = append(all, findArguments{a, append(findsOf(1, 0, 999), findsOf(5, 500)...)})
	}
	for k, c := range findCases() {
		valid := dateArguments{"valid", c.ids, c.rels, c.bounds}
		if k%5 == 0 {
			all = append(all, findArguments{valid, c.finds})
		}
		if k%100 == 0 {
			all = append(all, findArguments{valid, append(findsOf(5, -1, 0, 999), find(0, 0, 0))})
		}
	}
	return all
}

// FindsLate and FindsOld change no argument, and their results share no memory.
func TestFindsLateAndOldShareNoMemory(t *testing.T) {
	for name, call := range map[string]func(dateArguments, []impl.Find) []int{
		"FindsLate": func(a dateArguments, list []impl.Find) []int { return impl.FindsLate(a.ids, a.rels, a.bounds, list) },
		"FindsOld":  func(a dateArguments, list []impl.Find) []int { return impl.FindsOld(a.ids, a.rels, list) },
	} {
		for _, c := range findMemoryCases() {
			list := c.finds
			if !unchanged(c.dateArguments, func(a dateArguments) {
				room := withRoom(list, impl.FindMax)
				first, second := call(a, room), call(a, room)
				want := slices.Clone(second)
				if !slices.Equal(first, second) {
					t.Fatalf("%s(%v, %v, %v, %v) returned %v, and then %v", name, a.ids, a.rels, a.bounds, list, first, second)
				}
				overwrite(first, -7)
				if !slices.Equal(second, want) || !slices.Equal(room, list) || !isZero(behind(room)) {
					t.Fatalf("%s(%v, %v, %v, %v): results share memory, or the finds change", name, a.ids, a.rels, a.bounds, list)
				}
			}) {
				t.Fatalf("%s(%v, %v, %v, %v) changes an argument", name, c.ids, c.rels, c.bounds, list)
			}
		}
	}
}
