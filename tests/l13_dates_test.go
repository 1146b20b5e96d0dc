package tests

import (
	"math"
	"math/rand"
	"slices"
	"sync"
	"testing"

	"loop.example/excavation/impl"
)

// dateCase has valid arguments of the functions of chapter 13, and the groups and the order of their contexts.
type dateCase struct {
	groupCase
	bounds []impl.Bound
	heads  []int
	order  [][]bool
}

// span is a span from a year to another one.
func span(low, high int) impl.Span {
	return impl.Span{Low: low, High: high}
}

// dateCaseOf returns the case of contexts, relations and bounds.
func dateCaseOf(c groupCase, bounds ...impl.Bound) dateCase {
	return dateCase{c, bounds, expectedHeads(c), expectedOrder(c)}
}

// with returns the case of other bounds.
func (c dateCase) with(bounds ...impl.Bound) dateCase {
	c.bounds = bounds
	return c
}

// notBelow reports whether the context at a place is equal to that at another one, or lies above it.
func (c dateCase) notBelow(i, j int) bool {
	return c.heads[i] == c.heads[j] || c.order[i][j]
}

// place returns the place of a context.
func (c dateCase) place(id int) int {
	return slices.Index(c.ids, id)
}

// expectedSpans returns the spans, found in another way: each context is held against the bounds of all contexts.
func expectedSpans(c dateCase) ([]impl.Span, bool) {
	var spans []impl.Span
	for i := range c.ids {
		left := span(0, 999)
		for _, b := range c.bounds {
			if c.notBelow(i, c.place(b.Context)) {
				left.Low = max(left.Low, b.Low)
			}
			if c.notBelow(c.place(b.Context), i) {
				left.High = min(left.High, b.High)
			}
		}
		if left.Low > left.High {
			return nil, false
		}
		spans = append(spans, left)
	}
	return spans, true
}

// expectedFit reports whether years fit, as the document says it.
func expectedFit(c dateCase, years []int) bool {
	if len(years) != len(c.ids) {
		return false
	}
	for i, year := range years {
		if year < 0 || year > 999 {
			return false
		}
		for _, b := range c.bounds {
			if b.Context == c.ids[i] && (year < b.Low || year > b.High) {
				return false
			}
		}
		for j, other := range years {
			if c.heads[i] == c.heads[j] && year != other || c.order[i][j] && year < other {
				return false
			}
		}
	}
	return true
}

// contradict reports whether two bounds contradict each other: one ends before the other one begins, though its context
// does not lie below that of the other one.
func contradict(c dateCase, a, b impl.Bound) bool {
	return a.High < b.Low && c.notBelow(c.place(a.Context), c.place(b.Context)) ||
		b.High < a.Low && c.notBelow(c.place(b.Context), c.place(a.Context))
}

// expectedBlame returns the two bounds that are blamed, found in another way: each two of them are compared.
func expectedBlame(c dateCase) []int {
	for i, a := range c.bounds {
		for j, b := range c.bounds {
			if i < j && contradict(c, a, b) {
				return []int{i, j}
			}
		}
	}
	return nil
}

// someYears returns years that fit without bounds: each context is as late as the latest one of it and all below it.
func someYears(random *rand.Rand, c dateCase) []int {
	drawn, years := make([]int, len(c.ids)), make([]int, len(c.ids))
	for i := range drawn {
		drawn[i] = random.Intn(1000)
	}
	for i := range years {
		for j, year := range drawn {
			if c.notBelow(i, j) {
				years[i] = max(years[i], year)
			}
		}
	}
	return years
}

// boundsAround returns n bounds of contexts by chance in which their years are, at most some years away from the limits.
func boundsAround(random *rand.Rand, c dateCase, years []int, n, away int) []impl.Bound {
	var bounds []impl.Bound
	for range n {
		i := random.Intn(len(c.ids))
		bounds = append(bounds, bound(c.ids[i], max(0, years[i]-random.Intn(away)), min(999, years[i]+random.Intn(away))))
	}
	return bounds
}

// withOneMoved returns bounds of which one has other years, so that they may contradict each other.
func withOneMoved(random *rand.Rand, bounds []impl.Bound) []impl.Bound {
	other := slices.Clone(bounds)
	if len(other) > 0 {
		i, year := random.Intn(len(other)), random.Intn(1000)
		other[i] = bound(other[i].Context, year, min(999, year+random.Intn(200)))
	}
	return other
}

// dateCases returns cases with a valid order and bounds of each number: wide and close ones that years fit, and others that
// contradict each other in some places or in many. They are the same in each run.
var dateCases = sync.OnceValue(func() []dateCase {
	random := rand.New(rand.NewSource(13))
	base := append(append(digCases(200), fullCases()...), append(sparseCases(300), randomCases(300)...)...)
	three := []int{8, 9, 10}
	for _, rels := range subsets(relsWithin(three)) {
		base = append(base, groupCase{three, rels})
	}
	var cases []dateCase
	for _, g := range base {
		if !impl.OrderValid(g.ids, g.rels) {
			continue
		}
		c := dateCaseOf(g)
		cases = append(cases, c)
		if len(g.ids) == 0 {
			continue
		}
		for _, away := range []int{1, 40, 400} {
			fitting := boundsAround(random, c, someYears(random, c), 1+random.Intn(impl.BoundMax), away)
			cases = append(cases, c.with(fitting...), c.with(withOneMoved(random, fitting)...))
		}
		anywhere := boundsAround(random, c, someYears(random, c), impl.BoundMax, 300)
		for i := range anywhere {
			anywhere[i].Context = c.ids[random.Intn(len(c.ids))]
		}
		cases = append(cases, c.with(anywhere...))
	}
	return cases
})

// fittingCases returns the cases that years fit.
var fittingCases = sync.OnceValue(func() []dateCase {
	return slices.DeleteFunc(slices.Clone(dateCases()), func(c dateCase) bool { return expectedBlame(c) != nil })
})

// datesOf returns what DatesOf returns for arguments that years fit, for which it must not fail.
func datesOf(t *testing.T, c dateCase) []impl.Span {
	t.Helper()
	spans, ok := impl.DatesOf(c.ids, c.rels, c.bounds)
	if !ok || len(spans) != len(c.ids) {
		t.Fatalf("DatesOf(%v, %v, %v) returned %v, %v", c.ids, c.rels, c.bounds, spans, ok)
	}
	return spans
}

// limits returns the first and the last years of spans.
func limits(spans []impl.Span) ([]int, []int) {
	var first, last []int
	for _, s := range spans {
		first, last = append(first, s.Low), append(last, s.High)
	}
	return first, last
}

// dateExample has relations as a text, bounds, and what DatesOf or DatesBlame returns for them.
type dateExample struct {
	ids    []int
	text   string
	bounds []impl.Bound
	spans  []impl.Span
	blame  []int
}

// dateExamples returns the cases that the document names and that years fit, written out.
func dateExamples() map[string]dateExample {
	two, three, four := []int{1, 2}, []int{1, 2, 3}, []int{1, 2, 3, 4}
	all, early, late := span(0, 999), span(0, 400), span(300, 999)
	return map[string]dateExample{
		"no contexts":      {},
		"one context":      {ids: []int{7}, spans: []impl.Span{all}},
		"no bounds":        {ids: three, text: "1>2 2>3", spans: []impl.Span{all, all, all}},
		"no bounds, equal": {ids: three, text: "1=3 2>3", spans: []impl.Span{all, all, all}},
		"no relations":     {three, "", []impl.Bound{bound(3, 0, 0), bound(1, 300, 400)}, []impl.Span{span(300, 400), all, span(0, 0)}, nil},

		"a first year goes up":         {two, "1>2", []impl.Bound{bound(2, 300, 999)}, []impl.Span{late, late}, nil},
		"a first year goes up, back":   {two, "2>1", []impl.Bound{bound(1, 300, 999)}, []impl.Span{late, late}, nil},
		"a first year stays above":     {two, "1>2", []impl.Bound{bound(1, 300, 999)}, []impl.Span{late, all}, nil},
		"a last year goes down":        {two, "1>2", []impl.Bound{bound(1, 0, 400)}, []impl.Span{early, early}, nil},
		"a last year goes down, back":  {two, "2>1", []impl.Bound{bound(2, 0, 400)}, []impl.Span{early, early}, nil},
		"a last year stays below":      {two, "1>2", []impl.Bound{bound(2, 0, 400)}, []impl.Span{all, early}, nil},
		"both years of the upper one":  {two, "1>2", []impl.Bound{bound(1, 300, 400)}, []impl.Span{span(300, 400), early}, nil},
		"both years of the lower one":  {two, "1>2", []impl.Bound{bound(2, 300, 400)}, []impl.Span{late, span(300, 400)}, nil},
		"down, and not up again":       {three, "1>3 2>3", []impl.Bound{bound(1, 0, 400)}, []impl.Span{early, all, early}, nil},
		"up, and not down again":       {three, "1>2 1>3", []impl.Bound{bound(2, 300, 999)}, []impl.Span{late, late, all}, nil},
		"up through others":            {four, "1>2 2>3 3>4", []impl.Bound{bound(4, 300, 999)}, []impl.Span{late, late, late, late}, nil},
		"down through others":          {four, "1>2 2>3 3>4", []impl.Bound{bound(1, 0, 400)}, []impl.Span{early, early, early, early}, nil},
		"up through others, back":      {four, "2>1 3>2 4>3", []impl.Bound{bound(1, 300, 999)}, []impl.Span{late, late, late, late}, nil},
		"down through others, back":    {four, "2>1 3>2 4>3", []impl.Bound{bound(4, 0, 400)}, []impl.Span{early, early, early, early}, nil},
		"up through others, mixed":     {four, "3>1 1>4 4>2", []impl.Bound{bound(2, 300, 350)}, []impl.Span{late, span(300, 350), late, late}, nil},
		"down through others, mixed":   {four, "3>1 1>4 4>2", []impl.Bound{bound(3, 350, 400)}, []impl.Span{early, early, span(350, 400), early}, nil},
		"up and down through others":   {four, "1>2 2>3 3>4", []impl.Bound{bound(4, 300, 999), bound(1, 0, 400)}, slices.Repeat([]impl.Span{span(300, 400)}, 4), nil},
		"from the midst":               {three, "1>2 2>3", []impl.Bound{bound(2, 300, 400)}, []impl.Span{late, span(300, 400), early}, nil},
		"a bound in the midst changes": {three, "1>2 2>3", []impl.Bound{bound(1, 0, 800), bound(3, 100, 999), bound(2, 300, 400)}, []impl.Span{span(300, 800), span(300, 400), span(100, 400)}, nil},
		"two ways":                     {four, "1>2 1>3 2>4 3>4", []impl.Bound{bound(2, 200, 500), bound(3, 300, 600)}, []impl.Span{late, span(200, 500), span(300, 600), span(0, 500)}, nil},

		"equal to the first":           {two, "1=2", []impl.Bound{bound(1, 300, 400)}, []impl.Span{span(300, 400), span(300, 400)}, nil},
		"equal to the second":          {two, "1=2", []impl.Bound{bound(2, 300, 400)}, []impl.Span{span(300, 400), span(300, 400)}, nil},
		"equal, bounds of both":        {two, "1=2", []impl.Bound{bound(1, 100, 300), bound(2, 200, 400)}, []impl.Span{span(200, 300), span(200, 300)}, nil},
		"equal through others":         {four, "1=4 2=3 3=4", []impl.Bound{bound(2, 300, 400)}, slices.Repeat([]impl.Span{span(300, 400)}, 4), nil},
		"equal through others, bounds": {four, "1=4 2=3 3=4", []impl.Bound{bound(2, 0, 400), bound(1, 300, 999)}, slices.Repeat([]impl.Span{span(300, 400)}, 4), nil},
		"up to an equal one":           {three, "1=3 3>2", []impl.Bound{bound(2, 300, 350)}, []impl.Span{late, span(300, 350), late}, nil},
		"down to an equal one":         {three, "1=3 2>3", []impl.Bound{bound(2, 350, 400)}, []impl.Span{early, span(350, 400), early}, nil},
		"up from an equal one":         {three, "1>2 2=3", []impl.Bound{bound(3, 300, 350)}, []impl.Span{late, span(300, 350), span(300, 350)}, nil},
		"down from an equal one":       {three, "1=3 1>2", []impl.Bound{bound(3, 350, 400)}, []impl.Span{span(350, 400), early, span(350, 400)}, nil},
		"up through a group":           {four, "1>2 2=4 4>3", []impl.Bound{bound(3, 300, 350)}, []impl.Span{late, late, span(300, 350), late}, nil},
		"down through a group":         {four, "1>2 2=4 4>3", []impl.Bound{bound(1, 350, 400)}, []impl.Span{span(350, 400), early, early, early}, nil},

		"several bounds of one":        {two, "1>2", []impl.Bound{bound(2, 100, 700), bound(2, 300, 999), bound(2, 0, 600)}, []impl.Span{late, span(300, 600)}, nil},
		"several bounds, one below":    {two, "1>2", []impl.Bound{bound(1, 0, 700), bound(1, 100, 999), bound(2, 300, 800)}, []impl.Span{span(300, 700), span(300, 700)}, nil},
		"the same bound twice":         {two, "1>2", []impl.Bound{bound(2, 300, 350), bound(2, 300, 350)}, []impl.Span{late, span(300, 350)}, nil},
		"one year":                     {two, "1>2", []impl.Bound{bound(2, 300, 300)}, []impl.Span{late, span(300, 300)}, nil},
		"one year, touching":           {two, "1>2", []impl.Bound{bound(1, 0, 300), bound(2, 300, 999)}, []impl.Span{span(300, 300), span(300, 300)}, nil},
		"one year, touching, far":      {four, "1>2 2>3 3>4", []impl.Bound{bound(4, 300, 999), bound(1, 0, 300)}, slices.Repeat([]impl.Span{span(300, 300)}, 4), nil},
		"touching in one context":      {two, "1>2", []impl.Bound{bound(1, 0, 400), bound(1, 400, 999)}, []impl.Span{span(400, 400), early}, nil},
		"touching, equal":              {two, "1=2", []impl.Bound{bound(1, 0, 400), bound(2, 400, 999)}, []impl.Span{span(400, 400), span(400, 400)}, nil},
		"the year 0 goes down":         {three, "1>2 2>3", []impl.Bound{bound(1, 0, 0)}, slices.Repeat([]impl.Span{span(0, 0)}, 3), nil},
		"the year 0 does not go up":    {two, "1>2", []impl.Bound{bound(2, 0, 0)}, []impl.Span{all, span(0, 0)}, nil},
		"YearMax goes up":              {three, "1>2 2>3", []impl.Bound{bound(3, 999, 999)}, slices.Repeat([]impl.Span{span(999, 999)}, 3), nil},
		"YearMax does not go down":     {two, "1>2", []impl.Bound{bound(1, 999, 999)}, []impl.Span{span(999, 999), all}, nil},
		"0 below YearMax":              {two, "1>2", []impl.Bound{bound(1, 999, 999), bound(2, 0, 0)}, []impl.Span{span(999, 999), span(0, 0)}, nil},
		"earlier below":                {two, "1>2", []impl.Bound{bound(1, 300, 999), bound(2, 0, 299)}, []impl.Span{late, span(0, 299)}, nil},
		"a bound of all years":         {two, "1>2", []impl.Bound{bound(1, 0, 999), bound(2, 0, 999)}, []impl.Span{all, all}, nil},
		"years apart, no relation":     {three, "1>2", []impl.Bound{bound(1, 0, 0), bound(3, 999, 999)}, []impl.Span{span(0, 0), span(0, 0), span(999, 999)}, nil},
		"years apart, side by side":    {three, "1>2 1>3", []impl.Bound{bound(2, 0, 0), bound(3, 999, 999)}, []impl.Span{span(999, 999), span(0, 0), span(999, 999)}, nil},
		"numbers that are not indices": {[]int{9, 42, 99}, "99>9 9>42", []impl.Bound{bound(42, 300, 400)}, []impl.Span{late, span(300, 400), late}, nil},
	}
}

// blameExamples returns bounds that no years fit, and those that are blamed.
func blameExamples() map[string]dateExample {
	two, three, four := []int{1, 2}, []int{1, 2, 3}, []int{1, 2, 3, 4}
	fails := func(ids []int, text string, i, j int, bounds ...impl.Bound) dateExample {
		return dateExample{ids: ids, text: text, bounds: bounds, blame: []int{i, j}}
	}
	return map[string]dateExample{
		"within one context":           fails(two, "", 0, 1, bound(1, 0, 299), bound(1, 300, 999)),
		"within one context, back":     fails(two, "", 0, 1, bound(2, 300, 999), bound(2, 0, 299)),
		"within one, years of others":  fails(two, "1>2", 1, 3, bound(1, 0, 999), bound(2, 0, 0), bound(1, 500, 999), bound(2, 1, 1)),
		"between equal ones":           fails(two, "1=2", 0, 1, bound(1, 0, 299), bound(2, 300, 999)),
		"between equal ones, back":     fails(two, "1=2", 0, 1, bound(1, 300, 999), bound(2, 0, 299)),
		"equal through others":         fails(four, "1=4 2=3 3=4", 0, 2, bound(2, 0, 299), bound(4, 0, 999), bound(1, 300, 999)),
		"between neighbours":           fails(two, "1>2", 0, 1, bound(1, 0, 299), bound(2, 300, 999)),
		"between neighbours, back":     fails(two, "2>1", 0, 1, bound(1, 300, 999), bound(2, 0, 299)),
		"the lower bound first":        fails(two, "1>2", 0, 1, bound(2, 300, 999), bound(1, 0, 299)),
		"0 above YearMax":              fails(two, "1>2", 0, 1, bound(1, 0, 0), bound(2, 999, 999)),
		"0 above 1":                    fails(two, "1>2", 0, 1, bound(1, 0, 0), bound(2, 1, 999)),
		"998 above YearMax":            fails(two, "1>2", 0, 1, bound(1, 0, 998), bound(2, 999, 999)),
		"far apart":                    fails(four, "1>2 2>3 3>4", 0, 1, bound(4, 300, 400), bound(1, 200, 299)),
		"far apart, mixed":             fails(four, "3>1 1>4 4>2", 0, 1, bound(3, 200, 299), bound(2, 300, 400)),
		"far apart, through a group":   fails(four, "1>2 2=4 4>3", 0, 1, bound(3, 300, 400), bound(1, 200, 299)),
		"far apart, others between":    fails(four, "1>2 2>3 3>4", 0, 3, bound(1, 0, 299), bound(2, 0, 999), bound(3, 100, 500), bound(4, 300, 999)),
		"of a group and one above":     fails(three, "1>2 2=3", 0, 1, bound(3, 300, 999), bound(1, 0, 299)),
		"of a group and one below":     fails(three, "1=3 1>2", 0, 1, bound(3, 0, 299), bound(2, 300, 999)),
		"behind bounds that fit":       fails(three, "1>2 2>3", 2, 3, bound(1, 100, 700), bound(3, 100, 600), bound(1, 0, 299), bound(3, 300, 999)),
		"before bounds that fit":       fails(three, "1>2 2>3", 0, 1, bound(1, 0, 299), bound(3, 300, 999), bound(1, 100, 700), bound(3, 100, 600)),
		"three of one context":         fails(two, "", 0, 1, bound(1, 0, 0), bound(1, 5, 5), bound(1, 9, 9)),
		"the second with the third":    fails(two, "", 1, 2, bound(1, 0, 9), bound(1, 5, 6), bound(1, 7, 8)),
		"the first with the third":     fails(two, "", 0, 2, bound(1, 5, 6), bound(1, 0, 9), bound(1, 7, 8)),
		"lesser first index":           fails(four, "", 0, 3, bound(1, 0, 0), bound(2, 5, 5), bound(2, 6, 6), bound(1, 1, 1)),
		"lesser second index":          fails(two, "1>2", 0, 1, bound(1, 0, 100), bound(2, 101, 101), bound(2, 900, 999), bound(1, 0, 0)),
		"not the widest gap":           fails(two, "1>2", 0, 2, bound(1, 0, 100), bound(1, 0, 200), bound(2, 101, 300), bound(2, 900, 999)),
		"not the tightest bounds":      fails(two, "1>2", 0, 1, bound(1, 0, 300), bound(2, 400, 999), bound(1, 0, 200), bound(2, 500, 999)),
		"one that contradicts others":  fails(three, "1>2 1>3", 0, 2, bound(3, 400, 999), bound(2, 300, 999), bound(1, 0, 100)),
		"near and far":                 fails(three, "1>2 2>3", 0, 2, bound(1, 0, 100), bound(2, 0, 999), bound(3, 200, 999), bound(2, 300, 999)),
		"two sites beside each other":  fails(four, "1>2 3>4", 0, 2, bound(4, 300, 999), bound(2, 300, 999), bound(3, 0, 299), bound(1, 0, 299)),
		"first by order, not by years": fails(two, "1>2", 0, 1, bound(2, 500, 600), bound(1, 400, 499), bound(1, 100, 150), bound(2, 900, 900)),
	}
}

func TestDatesExamples(t *testing.T) {
	for name, e := range dateExamples() {
		rels := parsed(t, e.text)
		if got, ok := impl.DatesOf(e.ids, rels, e.bounds); !ok || !slices.Equal(got, e.spans) {
			t.Errorf("%s: DatesOf returned %v, %v, not %v", name, got, ok, e.spans)
		}
		first, last := limits(e.spans)
		if got, ok := impl.DatesEarliest(e.ids, rels, e.bounds); !ok || !slices.Equal(got, first) {
			t.Errorf("%s: DatesEarliest returned %v, %v, not %v", name, got, ok, first)
		}
		if got := impl.DatesBlame(e.ids, rels, e.bounds); len(got) != 0 {
			t.Errorf("%s: DatesBlame returned %v", name, got)
		}
		if !impl.DatesFit(e.ids, rels, e.bounds, first) || !impl.DatesFit(e.ids, rels, e.bounds, last) {
			t.Errorf("%s: DatesFit does not hold for %v or %v", name, first, last)
		}
	}
}

func TestDatesBlameExamples(t *testing.T) {
	for name, e := range blameExamples() {
		rels := parsed(t, e.text)
		if got := impl.DatesBlame(e.ids, rels, e.bounds); !slices.Equal(got, e.blame) {
			t.Errorf("%s: DatesBlame returned %v, not %v", name, got, e.blame)
		}
		if got, ok := impl.DatesOf(e.ids, rels, e.bounds); ok || len(got) != 0 {
			t.Errorf("%s: DatesOf returned %v, %v", name, got, ok)
		}
		if got, ok := impl.DatesEarliest(e.ids, rels, e.bounds); ok || len(got) != 0 {
			t.Errorf("%s: DatesEarliest returned %v, %v", name, got, ok)
		}
		for _, year := range []int{0, 100, 299, 300, 999} {
			if impl.DatesFit(e.ids, rels, e.bounds, slices.Repeat([]int{year}, len(e.ids))) {
				t.Errorf("%s: DatesFit holds for the year %d", name, year)
			}
		}
	}
}

func TestDatesFitExamples(t *testing.T) {
	two, three := []int{1, 2}, []int{1, 2, 3}
	examples := map[string]struct {
		ids    []int
		text   string
		bounds []impl.Bound
		years  []int
		want   bool
	}{
		"no contexts":                {nil, "", nil, nil, true},
		"no contexts, but a year":    {nil, "", nil, []int{5}, false},
		"one context":                {[]int{7}, "", nil, []int{5}, true},
		"no years":                   {two, "", nil, nil, false},
		"too few years":              {three, "1>2", nil, []int{9, 5}, false},
		"too many years":             {two, "1>2", nil, []int{9, 5, 5}, false},
		"many too many years":        {two, "1>2", nil, slices.Repeat([]int{5}, 1000), false},
		"no relations":               {three, "", nil, []int{0, 999, 5}, true},
		"later above":                {two, "1>2", nil, []int{6, 5}, true},
		"touching":                   {two, "1>2", nil, []int{5, 5}, true},
		"earlier above":              {two, "1>2", nil, []int{5, 6}, false},
		"later above, back":          {two, "2>1", nil, []int{5, 6}, true},
		"earlier above, back":        {two, "2>1", nil, []int{6, 5}, false},
		"earlier above, far":         {three, "1>3 3>2", nil, []int{5, 6, 5}, false},
		"earlier in the midst":       {three, "1>2 2>3", nil, []int{9, 4, 5}, false},
		"touching, all":              {three, "1>2 2>3", nil, []int{5, 5, 5}, true},
		"equal":                      {two, "1=2", nil, []int{5, 5}, true},
		"equal, the first later":     {two, "1=2", nil, []int{6, 5}, false},
		"equal, the second later":    {two, "1=2", nil, []int{5, 6}, false},
		"equal through others":       {three, "1=3 2=3", nil, []int{5, 5, 5}, true},
		"equal through others, not":  {three, "1=3 2=3", nil, []int{5, 6, 5}, false},
		"above an equal one":         {three, "1>2 2=3", nil, []int{5, 5, 5}, true},
		"above an equal one, not":    {three, "1>2 2=3", nil, []int{4, 5, 5}, false},
		"from 0 to YearMax":          {two, "1>2", nil, []int{999, 0}, true},
		"year -1":                    {two, "1>2", nil, []int{5, -1}, false},
		"year -1 alone":              {[]int{7}, "", nil, []int{-1}, false},
		"year 1000":                  {two, "1>2", nil, []int{1000, 5}, false},
		"year 1000 alone":            {[]int{7}, "", nil, []int{1000}, false},
		"least year":                 {two, "1>2", nil, []int{5, math.MinInt}, false},
		"greatest year":              {two, "1>2", nil, []int{math.MaxInt, 5}, false},
		"all years out of range":     {two, "1=2", nil, []int{1000, 1000}, false},
		"first year of a bound":      {two, "1>2", []impl.Bound{bound(2, 300, 400)}, []int{300, 300}, true},
		"last year of a bound":       {two, "1>2", []impl.Bound{bound(1, 300, 400)}, []int{400, 400}, true},
		"before a bound":             {two, "1>2", []impl.Bound{bound(2, 300, 400)}, []int{300, 299}, false},
		"behind a bound":             {two, "1>2", []impl.Bound{bound(1, 300, 400)}, []int{401, 400}, false},
		"in one of two bounds":       {two, "1>2", []impl.Bound{bound(1, 300, 400), bound(1, 350, 500)}, []int{320, 5}, false},
		"in the other of two bounds": {two, "1>2", []impl.Bound{bound(1, 300, 400), bound(1, 350, 500)}, []int{420, 5}, false},
		"in both bounds":             {two, "1>2", []impl.Bound{bound(1, 300, 400), bound(1, 350, 500)}, []int{370, 5}, true},
		"in no bound of two":         {two, "", []impl.Bound{bound(1, 300, 400), bound(1, 500, 600)}, []int{300, 5}, false},
		"bound of an equal one":      {two, "1=2", []impl.Bound{bound(2, 300, 400)}, []int{299, 299}, false},
		"bound of the other one":     {two, "", []impl.Bound{bound(2, 300, 400)}, []int{5, 300}, true},
		"bounds in another order":    {three, "1>2", []impl.Bound{bound(3, 1, 1), bound(1, 9, 9), bound(2, 5, 5)}, []int{9, 5, 1}, true},
	}
	for name, e := range examples {
		if got := impl.DatesFit(e.ids, parsed(t, e.text), e.bounds, e.years); got != e.want {
			t.Errorf("%s: DatesFit returned %v", name, got)
		}
	}
}

func TestDatesOf(t *testing.T) {
	fitting, failing, narrow := 0, 0, 0
	for _, c := range dateCases() {
		want, fine := expectedSpans(c)
		got, ok := impl.DatesOf(c.ids, c.rels, c.bounds)
		if ok != fine || !slices.Equal(got, want) {
			t.Fatalf("DatesOf(%v, %v, %v) returned %v, %v, not %v", c.ids, c.rels, c.bounds, got, ok, want)
		}
		if !ok {
			failing++
			continue
		}
		fitting++
		if slices.ContainsFunc(got, func(s impl.Span) bool { return s.Low > 0 && s.Low == s.High && s.High < 999 }) {
			narrow++
		}
	}
	if fitting < 1000 || failing < 1000 || narrow < 200 {
		t.Errorf("%d cases fit, %d do not, and %d have a span of one year", fitting, failing, narrow)
	}
}

// windowCases returns cases of three or four contexts whose bounds have limits among a few years.
func windowCases(years []int) []dateCase {
	random := rand.New(rand.NewSource(1300))
	var base []groupCase
	for _, rels := range subsets(relsWithin([]int{8, 9, 10})) {
		base = append(base, groupCase{[]int{8, 9, 10}, rels})
	}
	four := []int{3, 20, 21, 99}
	for range 100 {
		order := shuffled(random, four)
		rels := append(pathOf(order), above(order[0], order[2]), above(order[0], order[3]), above(order[1], order[3]))
		rels = shuffledRels(random, rels)[:random.Intn(4)]
		base = append(base, groupCase{four, inOrder(append(rels, chain(shuffled(random, four)[:1+random.Intn(2)])...))})
	}
	var cases []dateCase
	for _, g := range base {
		if !impl.OrderValid(g.ids, g.rels) {
			continue
		}
		for n := range 7 {
			var bounds []impl.Bound
			for range n {
				a, b := years[random.Intn(len(years))], years[random.Intn(len(years))]
				bounds = append(bounds, bound(g.ids[random.Intn(len(g.ids))], min(a, b), max(a, b)))
			}
			cases = append(cases, dateCaseOf(g, bounds...))
		}
	}
	return cases
}

// shuffledRels returns relations in an order by chance.
func shuffledRels(random *rand.Rand, rels []impl.Rel) []impl.Rel {
	other := slices.Clone(rels)
	random.Shuffle(len(other), func(i, j int) { other[i], other[j] = other[j], other[i] })
	return other
}

// tuples returns all lists of n of some years.
func tuples(years []int, n int) [][]int {
	lists := [][]int{nil}
	for range n {
		var longer [][]int
		for _, list := range lists {
			for _, year := range years {
				longer = append(longer, append(slices.Clone(list), year))
			}
		}
		lists = longer
	}
	return lists
}

// triedSpans returns the spans of all lists of years that fit, and whether there are any.
func triedSpans(c dateCase, lists [][]int) ([]impl.Span, bool) {
	var spans []impl.Span
	for _, years := range lists {
		if !expectedFit(c, years) {
			continue
		}
		if spans == nil {
			spans = slices.Repeat([]impl.Span{span(999, 0)}, len(years))
		}
		for i, year := range years {
			spans[i] = span(min(spans[i].Low, year), max(spans[i].High, year))
		}
	}
	return spans, spans != nil
}

// Promises 59, 60, 65 and 66: all years of three or four contexts are tried, as far as they can be limits of spans.
func TestDatesOfAllYears(t *testing.T) {
	for _, years := range [][]int{{0, 1, 2, 3, 999}, {0, 996, 997, 998, 999}, {0, 500, 501, 502, 999}} {
		lists := map[int][][]int{3: tuples(years, 3), 4: tuples(years, 4)}
		fitting, failing := 0, 0
		for _, c := range windowCases(years) {
			want, fine := triedSpans(c, lists[len(c.ids)])
			if got, ok := impl.DatesOf(c.ids, c.rels, c.bounds); ok != fine || !slices.Equal(got, want) {
				t.Fatalf("DatesOf(%v, %v, %v) returned %v, %v, not %v", c.ids, c.rels, c.bounds, got, ok, want)
			}
			first, _ := limits(want)
			if got, ok := impl.DatesEarliest(c.ids, c.rels, c.bounds); ok != fine || !slices.Equal(got, first) {
				t.Fatalf("DatesEarliest(%v, %v, %v) returned %v, %v, not %v", c.ids, c.rels, c.bounds, got, ok, first)
			}
			if fine {
				fitting++
			} else {
				failing++
			}
		}
		if fitting < 100 || failing < 100 {
			t.Errorf("%d cases fit, and %d do not", fitting, failing)
		}
	}
}

// Promises 67 and 68: for each two bounds, all years of three or four contexts are tried.
func TestDatesBlameAllYears(t *testing.T) {
	years := []int{0, 1, 2, 999}
	lists := map[int][][]int{3: tuples(years, 3), 4: tuples(years, 4)}
	blamed := 0
	for _, c := range windowCases(years) {
		var want []int
		for i, a := range c.bounds {
			for j := i + 1; j < len(c.bounds) && want == nil; j++ {
				if _, ok := triedSpans(c.with(a, c.bounds[j]), lists[len(c.ids)]); !ok {
					want = []int{i, j}
				}
			}
		}
		if got := impl.DatesBlame(c.ids, c.rels, c.bounds); !slices.Equal(got, want) {
			t.Fatalf("DatesBlame(%v, %v, %v) returned %v, not %v", c.ids, c.rels, c.bounds, got, want)
		}
		if want != nil {
			blamed++
		}
	}
	if blamed < 100 {
		t.Errorf("only %d cases have bounds that are blamed", blamed)
	}
}

// Promise 65: years of three or four contexts fit exactly if the document says so, for all lists of some years.
func TestDatesFitAllYears(t *testing.T) {
	years := []int{-1, 0, 1, 999, 1000}
	lists := map[int][][]int{3: tuples(years, 3), 4: tuples(years, 4)}
	for _, c := range windowCases([]int{0, 1, 999}) {
		for _, list := range lists[len(c.ids)] {
			if want := expectedFit(c, list); impl.DatesFit(c.ids, c.rels, c.bounds, list) != want {
				t.Fatalf("DatesFit(%v, %v, %v, %v) is not %v", c.ids, c.rels, c.bounds, list, want)
			}
		}
	}
}

// yearsNear returns lists of years for a case: some that fit, and others that are nearly the same.
func yearsNear(random *rand.Rand, c dateCase, spans []impl.Span) [][]int {
	first, last := limits(spans)
	some := slices.Clone(first)
	// Of each context and all below it, the latest year in its span is taken, so that the years fit.
	for i := range some {
		year := spans[i].Low + random.Intn(spans[i].High-spans[i].Low+1)
		for j := range some {
			if c.notBelow(j, i) {
				some[j] = max(some[j], year)
			}
		}
	}
	lists := [][]int{first, last, some}
	for _, years := range lists[:3] {
		for i := range years {
			for _, change := range []int{-1, 1} {
				other := slices.Clone(years)
				other[i] += change
				lists = append(lists, other)
			}
		}
		if len(years) > 1 {
			lists = append(lists, years[1:], shuffled(random, years))
		}
		lists = append(lists, append(slices.Clone(years), 500))
	}
	return lists
}

// Promises 59 and 65: years that fit are in the spans, and they fit exactly if the document says so.
func TestDatesFit(t *testing.T) {
	random := rand.New(rand.NewSource(59))
	fitting, failing := 0, 0
	for _, c := range fittingCases() {
		spans := datesOf(t, c)
		for _, years := range yearsNear(random, c, spans) {
			got := impl.DatesFit(c.ids, c.rels, c.bounds, years)
			if want := expectedFit(c, years); got != want {
				t.Fatalf("DatesFit(%v, %v, %v, %v) is not %v", c.ids, c.rels, c.bounds, years, want)
			}
			if !got {
				failing++
				continue
			}
			fitting++
			for i, year := range years {
				if year < spans[i].Low || year > spans[i].High {
					t.Fatalf("DatesFit(%v, %v, %v, %v) holds, but DatesOf returned %v", c.ids, c.rels, c.bounds, years, spans)
				}
			}
		}
	}
	if fitting < 1000 || failing < 1000 {
		t.Errorf("%d lists of years fit, and %d do not", fitting, failing)
	}
}

// Promise 59: no years fit if DatesOf fails, not even those of bounds without the contradiction.
func TestDatesFitOfContradictions(t *testing.T) {
	for _, c := range dateCases() {
		blame := expectedBlame(c)
		if blame == nil {
			continue
		}
		for _, i := range blame {
			spans, ok := impl.DatesOf(c.ids, c.rels, without(c.bounds, i))
			first, last := limits(spans)
			if ok && (impl.DatesFit(c.ids, c.rels, c.bounds, first) || impl.DatesFit(c.ids, c.rels, c.bounds, last)) {
				t.Fatalf("DatesFit(%v, %v, %v) holds for %v or %v", c.ids, c.rels, c.bounds, first, last)
			}
		}
	}
}

// Promise 60: the first years of all spans fit together, and the last years do.
func TestDatesOfLimitsFit(t *testing.T) {
	for _, c := range fittingCases() {
		first, last := limits(datesOf(t, c))
		for _, years := range [][]int{first, last} {
			if !impl.DatesFit(c.ids, c.rels, c.bounds, years) || !expectedFit(c, years) {
				t.Fatalf("DatesOf(%v, %v, %v): %v do not fit", c.ids, c.rels, c.bounds, years)
			}
		}
	}
}

// Promise 61: what lies above is not before what lies below, and contexts of a group have the same span.
func TestDatesOfAreInOrder(t *testing.T) {
	for _, c := range fittingCases() {
		spans := datesOf(t, c)
		for i, upper := range spans {
			for j, lower := range spans {
				if c.order[i][j] && (upper.Low < lower.Low || upper.High < lower.High) || c.heads[i] == c.heads[j] && upper != lower {
					t.Fatalf("DatesOf(%v, %v, %v) returned %v", c.ids, c.rels, c.bounds, spans)
				}
			}
		}
	}
}

// Promise 62: the span of each context is in that of its own bounds.
func TestDatesOfAreInBounds(t *testing.T) {
	for _, c := range fittingCases() {
		for i, s := range datesOf(t, c) {
			low, high, ok := impl.BoundsOf(c.bounds, c.ids[i])
			if !ok || s.Low < low || s.High > high || s.Low > s.High {
				t.Fatalf("DatesOf(%v, %v, %v) returned %v for %d", c.ids, c.rels, c.bounds, s, c.ids[i])
			}
		}
	}
}

// Promise 63: without any one bound no years are lost.
func TestDatesOfWithoutOneBound(t *testing.T) {
	more := 0
	for _, c := range fittingCases() {
		spans := datesOf(t, c)
		for i := range c.bounds {
			for k, s := range datesOf(t, c.with(without(c.bounds, i)...)) {
				if s.Low > spans[k].Low || s.High < spans[k].High {
					t.Fatalf("DatesOf(%v, %v, %v) returned %v, and %v for %d without a bound", c.ids, c.rels, c.bounds, spans, s, c.ids[k])
				}
				if s != spans[k] {
					more++
				}
			}
		}
	}
	if more < 1000 {
		t.Errorf("only %d spans have more years without a bound", more)
	}
}

// Promise 64: the relations of the matrix lead to the same.
func TestDatesOfMatrix(t *testing.T) {
	fewer := 0
	for _, c := range dateCases() {
		spans, ok := impl.DatesOf(c.ids, c.rels, c.bounds)
		matrix := matrixOf(t, c.groupCase)
		if other, fine := impl.DatesOf(c.ids, matrix, c.bounds); ok != fine || !slices.Equal(spans, other) {
			t.Fatalf("DatesOf(%v, %v, %v) returned %v, %v, and %v, %v for the matrix", c.ids, c.rels, c.bounds, spans, ok, other, fine)
		}
		if blame := impl.DatesBlame(c.ids, c.rels, c.bounds); !slices.Equal(blame, impl.DatesBlame(c.ids, matrix, c.bounds)) {
			t.Fatalf("DatesBlame(%v, %v, %v) returned %v, but not for the matrix", c.ids, c.rels, c.bounds, blame)
		}
		if len(matrix) < len(c.rels) {
			fewer++
		}
	}
	if fewer < 1000 {
		t.Errorf("only %d cases have relations that follow", fewer)
	}
}

// Spans are as tight as possible: with their first or their last year alone there are years that fit, and there are none
// before and behind them.
func TestDatesOfAreTight(t *testing.T) {
	for _, c := range fittingCases() {
		if len(c.bounds) == impl.BoundMax {
			continue
		}
		for i, s := range datesOf(t, c) {
			id := c.ids[i]
			for _, year := range []int{s.Low, s.High, (s.Low + s.High) / 2} {
				if spans := datesOf(t, c.with(append(slices.Clone(c.bounds), bound(id, year, year))...)); spans[i] != span(year, year) {
					t.Fatalf("DatesOf(%v, %v, %v) returned %v with %d in %d", c.ids, c.rels, c.bounds, spans, id, year)
				}
			}
			for _, b := range []impl.Bound{bound(id, 0, s.Low-1), bound(id, s.High+1, 999)} {
				if b.Low > b.High {
					continue
				}
				if _, ok := impl.DatesOf(c.ids, c.rels, append(slices.Clone(c.bounds), b)); ok {
					t.Fatalf("DatesOf(%v, %v, %v) returned %v for %d, which can also be in %v", c.ids, c.rels, c.bounds, s, id, b)
				}
			}
		}
	}
}

// Promise 66: the earliest years fit, are those of DatesOf, and no context can be earlier.
func TestDatesEarliest(t *testing.T) {
	for _, c := range dateCases() {
		got, ok := impl.DatesEarliest(c.ids, c.rels, c.bounds)
		spans, fine := impl.DatesOf(c.ids, c.rels, c.bounds)
		first, _ := limits(spans)
		if ok != fine || !slices.Equal(got, first) {
			t.Fatalf("DatesEarliest(%v, %v, %v) returned %v, %v, not %v", c.ids, c.rels, c.bounds, got, ok, first)
		}
		if !ok {
			continue
		}
		if !impl.DatesFit(c.ids, c.rels, c.bounds, got) {
			t.Fatalf("DatesEarliest(%v, %v, %v) returned %v, which does not fit", c.ids, c.rels, c.bounds, got)
		}
		for i := range got {
			// If it could be a year earlier, its group and what lies below it could be, too.
			earlier := slices.Clone(got)
			for j := range earlier {
				if c.heads[j] == c.heads[i] || c.order[i][j] {
					earlier[j] = min(earlier[j], got[i]-1)
				}
			}
			if impl.DatesFit(c.ids, c.rels, c.bounds, earlier) {
				t.Fatalf("DatesEarliest(%v, %v, %v) returned %v, but %v fit", c.ids, c.rels, c.bounds, got, earlier)
			}
		}
	}
}

// Promises 67 and 68: there are two bounds exactly if DatesOf fails, and it fails for these alone.
func TestDatesBlame(t *testing.T) {
	pairs := map[[2]int]bool{}
	for _, c := range dateCases() {
		got, want := impl.DatesBlame(c.ids, c.rels, c.bounds), expectedBlame(c)
		if !slices.Equal(got, want) {
			t.Fatalf("DatesBlame(%v, %v, %v) returned %v, not %v", c.ids, c.rels, c.bounds, got, want)
		}
		if _, ok := impl.DatesOf(c.ids, c.rels, c.bounds); ok != (len(got) == 0) {
			t.Fatalf("DatesBlame(%v, %v, %v) returned %v, but DatesOf %v", c.ids, c.rels, c.bounds, got, ok)
		}
		if len(got) == 0 {
			continue
		}
		if len(got) != 2 || got[0] < 0 || got[0] >= got[1] || got[1] >= len(c.bounds) {
			t.Fatalf("DatesBlame(%v, %v, %v) returned %v", c.ids, c.rels, c.bounds, got)
		}
		alone := []impl.Bound{c.bounds[got[0]], c.bounds[got[1]]}
		if spans, ok := impl.DatesOf(c.ids, c.rels, alone); ok {
			t.Fatalf("DatesBlame(%v, %v, %v) returned %v, for which DatesOf returned %v", c.ids, c.rels, c.bounds, got, spans)
		}
		pairs[[2]int(got)] = true
	}
	if len(pairs) < 50 {
		t.Errorf("only %d different pairs of bounds are blamed", len(pairs))
	}
}

// Promise 69: the bounds behind the second one have no influence; those before it neither, but for their number.
func TestDatesBlameWithoutOthers(t *testing.T) {
	several := 0
	for _, c := range dateCases() {
		got := impl.DatesBlame(c.ids, c.rels, c.bounds)
		if len(got) == 0 {
			continue
		}
		if cut := impl.DatesBlame(c.ids, c.rels, c.bounds[:got[1]+1]); !slices.Equal(cut, got) {
			t.Fatalf("DatesBlame(%v, %v, %v) returned %v, and %v without what is behind", c.ids, c.rels, c.bounds, got, cut)
		}
		if got[0] > 0 {
			if cut := impl.DatesBlame(c.ids, c.rels, c.bounds[got[0]:]); !slices.Equal(cut, []int{0, got[1] - got[0]}) {
				t.Fatalf("DatesBlame(%v, %v, %v) returned %v, and %v without what is before", c.ids, c.rels, c.bounds, got, cut)
			}
		}
		if other := expectedBlame(c.with(without(c.bounds, got[0])...)); other != nil {
			several++
		}
	}
	if several < 500 {
		t.Errorf("only %d cases have several contradictions", several)
	}
}

// One bound alone, and bounds of contexts that do not lie above each other, never contradict each other.
func TestDatesWithoutContradiction(t *testing.T) {
	for _, c := range dateCases() {
		for _, b := range c.bounds {
			datesOf(t, c.with(b))
			if got := impl.DatesBlame(c.ids, c.rels, []impl.Bound{b}); len(got) != 0 {
				t.Fatalf("DatesBlame(%v, %v, %v) alone returned %v", c.ids, c.rels, b, got)
			}
		}
	}
}

// Bounds in any other order leave the same years.
func TestDatesOfBoundsInAnyOrder(t *testing.T) {
	random := rand.New(rand.NewSource(130))
	for _, c := range dateCases() {
		spans, ok := impl.DatesOf(c.ids, c.rels, c.bounds)
		back := slices.Clone(c.bounds)
		slices.Reverse(back)
		mixed := slices.Clone(c.bounds)
		random.Shuffle(len(mixed), func(i, j int) { mixed[i], mixed[j] = mixed[j], mixed[i] })
		for _, bounds := range [][]impl.Bound{back, mixed} {
			if other, fine := impl.DatesOf(c.ids, c.rels, bounds); ok != fine || !slices.Equal(spans, other) {
				t.Fatalf("DatesOf(%v, %v) returned %v, %v for %v, and %v, %v for %v", c.ids, c.rels, spans, ok, c.bounds, other, fine, bounds)
			}
		}
	}
}

// A bound of any context of a group is one of all of them.
func TestDatesOfBoundsOfEqualContexts(t *testing.T) {
	random := rand.New(rand.NewSource(131))
	moved := 0
	for _, c := range dateCases() {
		bounds := slices.Clone(c.bounds)
		for i, b := range bounds {
			members := impl.GroupMembers(c.ids, c.rels, b.Context)
			bounds[i].Context = members[random.Intn(len(members))]
			if bounds[i] != b {
				moved++
			}
		}
		spans, ok := impl.DatesOf(c.ids, c.rels, c.bounds)
		if other, fine := impl.DatesOf(c.ids, c.rels, bounds); ok != fine || !slices.Equal(spans, other) {
			t.Fatalf("DatesOf(%v, %v) returned %v, %v for %v, and %v, %v for %v", c.ids, c.rels, spans, ok, c.bounds, other, fine, bounds)
		}
		if got, other := impl.DatesBlame(c.ids, c.rels, c.bounds), impl.DatesBlame(c.ids, c.rels, bounds); !slices.Equal(got, other) {
			t.Fatalf("DatesBlame(%v, %v) returned %v for %v, and %v for %v", c.ids, c.rels, got, c.bounds, other, bounds)
		}
	}
	if moved < 1000 {
		t.Errorf("only %d bounds became those of other contexts", moved)
	}
}

// ContextMax contexts in a row, in many orders, with a bound at one end or the other, and with BoundMax bounds.
func TestDatesOfLongRows(t *testing.T) {
	random := rand.New(rand.NewSource(132))
	ids := numbersOf(impl.ContextMax, 4, 8)
	back := slices.Clone(ids)
	slices.Reverse(back)
	orders := [][]int{ids, back}
	for range 100 {
		orders = append(orders, shuffled(random, ids))
	}
	for _, order := range orders {
		c := dateCaseOf(groupCase{ids, pathOf(order)})
		top, bottom := order[0], order[len(order)-1]
		equal := dateCaseOf(groupCase{ids, chain(order)})
		for _, e := range []struct {
			c      dateCase
			bounds []impl.Bound
			want   impl.Span
		}{
			{c, []impl.Bound{bound(bottom, 300, 999)}, span(300, 999)},
			{c, []impl.Bound{bound(top, 0, 400)}, span(0, 400)},
			{c, []impl.Bound{bound(bottom, 300, 999), bound(top, 0, 400)}, span(300, 400)},
			{c, []impl.Bound{bound(top, 0, 300), bound(bottom, 300, 999)}, span(300, 300)},
			{equal, []impl.Bound{bound(bottom, 300, 400)}, span(300, 400)},
			{equal, []impl.Bound{bound(order[5], 0, 400), bound(order[6], 300, 999)}, span(300, 400)},
		} {
			if got := datesOf(t, e.c.with(e.bounds...)); !slices.Equal(got, slices.Repeat([]impl.Span{e.want}, len(ids))) {
				t.Fatalf("DatesOf(%v, %v, %v) returned %v", ids, e.c.rels, e.bounds, got)
			}
		}
		// From the last one up, each one begins and ends a little later than the one below it.
		var steps, flat []impl.Bound
		for i, id := range order {
			steps = append(steps, bound(id, 900-10*i, 950-10*i))
			flat = append(flat, bound(id, 10*i, 889+10*i))
		}
		for i, s := range datesOf(t, c.with(steps...)) {
			if b := steps[slices.Index(order, ids[i])]; s != span(b.Low, b.High) {
				t.Fatalf("DatesOf(%v, %v, %v) returned %v for %d", ids, c.rels, steps, s, ids[i])
			}
		}
		// Here, each one begins and ends earlier than the one below it, so that the limits of the ends go everywhere.
		if got := datesOf(t, c.with(flat...)); !slices.Equal(got, slices.Repeat([]impl.Span{span(110, 889)}, len(ids))) {
			t.Fatalf("DatesOf(%v, %v, %v) returned %v", ids, c.rels, flat, got)
		}
		flat[0].High = 109
		if got := impl.DatesBlame(ids, c.rels, flat); !slices.Equal(got, []int{0, impl.BoundMax - 1}) {
			t.Fatalf("DatesBlame(%v, %v, %v) returned %v", ids, c.rels, flat, got)
		}
	}
}

// dateArguments has arguments of the functions of chapter 13 that are not valid, and what is wrong with them.
type dateArguments struct {
	name   string
	ids    []int
	rels   []impl.Rel
	bounds []impl.Bound
}

// invalidDates returns invalid arguments: circles, wrong numbers and relations, wrong bounds, and bounds of other contexts.
func invalidDates() []dateArguments {
	var all []dateArguments
	for _, c := range invalidDigCases() {
		all = append(all, dateArguments{"order", c.ids, c.rels, nil})
		if len(c.ids) > 0 {
			all = append(all, dateArguments{"order with bounds", c.ids, c.rels, []impl.Bound{bound(c.ids[0], 0, 999)}})
		}
	}
	ids := []int{1, 5, 6, 7, 98, 99}
	for _, bounds := range invalidBounds() {
		all = append(all, dateArguments{"bounds", ids, nil, bounds}, dateArguments{"bounds with relations", ids, pathOf(ids), bounds})
	}
	for _, id := range []int{2, 4, 8, 97} {
		b := bound(id, 0, 999)
		for i := range 4 {
			bounds := slices.Insert([]impl.Bound{bound(1, 0, 999), bound(5, 0, 999), bound(99, 0, 999)}, i, b)
			all = append(all, dateArguments{"bound of a missing context", ids, pathOf(ids), bounds})
		}
		all = append(all,
			dateArguments{"bound of a missing context alone", ids, nil, []impl.Bound{b}},
			dateArguments{"bound of no contexts", nil, nil, []impl.Bound{b}},
			dateArguments{"as many bounds of missing contexts as can be", ids, nil, slices.Repeat([]impl.Bound{b}, impl.BoundMax)},
			dateArguments{"relation of a missing context", ids, []impl.Rel{above(1, id)}, nil},
			dateArguments{"equality of a missing context", ids, []impl.Rel{same(1, id)}, []impl.Bound{bound(1, 0, 999)}},
		)
	}
	return append(all,
		dateArguments{"contradiction and a circle", ids, circleOf(ids), []impl.Bound{bound(1, 0, 0), bound(1, 5, 5)}},
		dateArguments{"contradiction and a missing context", ids, nil, []impl.Bound{bound(1, 0, 0), bound(1, 5, 5), bound(2, 0, 999)}},
		dateArguments{"contradiction of a missing context", ids, nil, []impl.Bound{bound(2, 0, 0), bound(2, 5, 5)}},
		dateArguments{"contradiction and a wrong bound", ids, nil, []impl.Bound{bound(1, 0, 0), bound(1, 5, 5), bound(1, 5, 4)}},
		dateArguments{"contradiction in a wrong bound", ids, nil, []impl.Bound{bound(1, 5, 4), bound(1, 0, 999)}},
		dateArguments{"contradiction and too many bounds", ids, nil, append(slices.Repeat([]impl.Bound{bound(5, 1, 1)}, impl.BoundMax), bound(5, 0, 0))},
		dateArguments{"too many bounds", ids, nil, slices.Repeat([]impl.Bound{bound(5, 0, 999)}, impl.BoundMax+1)},
	)
}

// Without valid arguments nothing is returned, no years fit, and no bounds are blamed.
func TestDatesOfInvalidArguments(t *testing.T) {
	for _, a := range invalidDates() {
		if got, ok := impl.DatesOf(a.ids, a.rels, a.bounds); ok || len(got) != 0 {
			t.Errorf("%s: DatesOf(%v, %v, %v) returned %v, %v", a.name, a.ids, a.rels, a.bounds, got, ok)
		}
		if got, ok := impl.DatesEarliest(a.ids, a.rels, a.bounds); ok || len(got) != 0 {
			t.Errorf("%s: DatesEarliest(%v, %v, %v) returned %v, %v", a.name, a.ids, a.rels, a.bounds, got, ok)
		}
		if got := impl.DatesBlame(a.ids, a.rels, a.bounds); len(got) != 0 {
			t.Errorf("%s: DatesBlame(%v, %v, %v) returned %v", a.name, a.ids, a.rels, a.bounds, got)
		}
		for _, year := range []int{0, 100, 150, 200, 500, 999} {
			if impl.DatesFit(a.ids, a.rels, a.bounds, slices.Repeat([]int{year}, len(a.ids))) {
				t.Errorf("%s: DatesFit(%v, %v, %v) holds for the year %d", a.name, a.ids, a.rels, a.bounds, year)
			}
		}
		if impl.DatesFit(a.ids, a.rels, a.bounds, nil) {
			t.Errorf("%s: DatesFit(%v, %v, %v) holds without years", a.name, a.ids, a.rels, a.bounds)
		}
	}
}

// BoundMax bounds are valid, and one more is not, whatever contexts they are of.
func TestDatesOfBoundMaxBounds(t *testing.T) {
	ids := numbersOf(impl.ContextMax, 1, 1)
	for n := range 15 {
		bounds := slices.Repeat([]impl.Bound{bound(3, 0, 999), bound(12, 5, 900), bound(1, 0, 950)}, 5)[:n]
		if _, ok := impl.DatesOf(ids, pathOf(ids), bounds); ok != (n <= 12) {
			t.Errorf("DatesOf with %d bounds returned %v", n, ok)
		}
		if got := impl.DatesFit(ids, pathOf(ids), bounds, slices.Repeat([]int{500}, len(ids))); got != (n <= 12) {
			t.Errorf("DatesFit with %d bounds returned %v", n, got)
		}
		if _, ok := impl.DatesEarliest(ids, pathOf(ids), bounds); ok != (n <= 12) {
			t.Errorf("DatesEarliest with %d bounds returned %v", n, ok)
		}
		blame := impl.DatesBlame(ids, pathOf(ids), append([]impl.Bound{bound(1, 0, 0), bound(1, 9, 9)}, bounds...))
		if (len(blame) == 2) != (n <= 10) {
			t.Errorf("DatesBlame with %d bounds returned %v", n+2, blame)
		}
	}
}

// Years that are too few, too many or out of range do not fit, wherever they are wrong.
func TestDatesFitOfInvalidYears(t *testing.T) {
	for k, c := range fittingCases() {
		if k%10 != 0 {
			continue
		}
		first, last := limits(datesOf(t, c))
		for _, years := range [][]int{first, last} {
			for i := range years {
				for _, wrong := range []int{-1, 1000, -1000, math.MinInt, math.MaxInt} {
					other := slices.Clone(years)
					other[i] = wrong
					if impl.DatesFit(c.ids, c.rels, c.bounds, other) {
						t.Fatalf("DatesFit(%v, %v, %v, %v) holds", c.ids, c.rels, c.bounds, other)
					}
				}
				if impl.DatesFit(c.ids, c.rels, c.bounds, without(years, i)) {
					t.Fatalf("DatesFit(%v, %v, %v) holds without a year", c.ids, c.rels, c.bounds)
				}
			}
			for _, more := range [][]int{{0}, {500}, {999}, {0, 0}, years} {
				if len(more) > 0 && impl.DatesFit(c.ids, c.rels, c.bounds, slices.Concat(years, more)) {
					t.Fatalf("DatesFit(%v, %v, %v) holds with further years", c.ids, c.rels, c.bounds)
				}
			}
		}
	}
	for _, wrong := range []int{-1, 1000, math.MinInt, math.MaxInt} {
		ids := numbersOf(impl.ContextMax, 1, 1)
		if impl.DatesFit(ids, nil, nil, slices.Repeat([]int{wrong}, len(ids))) {
			t.Errorf("DatesFit holds for the year %d", wrong)
		}
	}
}

// memoryCases returns valid and invalid arguments.
func memoryCases() []dateArguments {
	all := invalidDates()
	for k, c := range dateCases() {
		if k%5 == 0 {
			all = append(all, dateArguments{"valid", c.ids, c.rels, c.bounds})
		}
	}
	return all
}

// unchanged calls a function with arguments in memory with further room, and reports whether these are as before, and
// nothing was written behind them.
func unchanged(a dateArguments, call func(a dateArguments)) bool {
	room := dateArguments{a.name, withRoom(a.ids, impl.ContextMax), withRoom(a.rels, impl.RelMax), withRoom(a.bounds, impl.BoundMax)}
	call(room)
	return untouched(groupCase{room.ids, room.rels}, groupCase{a.ids, a.rels}) &&
		slices.Equal(room.bounds, a.bounds) && isZero(behind(room.bounds))
}

// DatesOf changes no argument, and its results share no memory.
func TestDatesOfSharesNoMemory(t *testing.T) {
	for _, a := range memoryCases() {
		if !unchanged(a, func(a dateArguments) {
			first, ok := impl.DatesOf(a.ids, a.rels, a.bounds)
			second, again := impl.DatesOf(a.ids, a.rels, a.bounds)
			want := slices.Clone(second)
			if ok != again || !slices.Equal(first, second) {
				t.Fatalf("DatesOf(%v, %v, %v) returned %v, and then %v", a.ids, a.rels, a.bounds, first, second)
			}
			overwrite(first, span(-7, -7))
			if !slices.Equal(second, want) {
				t.Fatalf("DatesOf(%v, %v, %v): two results share memory", a.ids, a.rels, a.bounds)
			}
		}) {
			t.Fatalf("DatesOf(%v, %v, %v) changes an argument", a.ids, a.rels, a.bounds)
		}
	}
}

// DatesFit, DatesEarliest and DatesBlame change no argument, and their results share no memory.
func TestDatesShareNoMemory(t *testing.T) {
	calls := map[string]func(a dateArguments, years []int) []int{
		"DatesFit": func(a dateArguments, years []int) []int { impl.DatesFit(a.ids, a.rels, a.bounds, years); return nil },
		"DatesEarliest": func(a dateArguments, years []int) []int {
			list, _ := impl.DatesEarliest(a.ids, a.rels, a.bounds)
			return list
		},
		"DatesBlame": func(a dateArguments, years []int) []int { return impl.DatesBlame(a.ids, a.rels, a.bounds) },
	}
	for name, call := range calls {
		for _, a := range memoryCases() {
			earliest, _ := impl.DatesEarliest(a.ids, a.rels, a.bounds)
			for _, years := range [][]int{earliest, numbersOf(len(a.ids), 990, -3), {5, 3}} {
				if !unchanged(a, func(a dateArguments) {
					room := withRoom(years, impl.ContextMax)
					first, second := call(a, room), call(a, room)
					want := slices.Clone(second)
					if !slices.Equal(first, second) {
						t.Fatalf("%s(%v, %v, %v) returned %v, and then %v", name, a.ids, a.rels, a.bounds, first, second)
					}
					overwrite(first, -7)
					if !slices.Equal(second, want) || !slices.Equal(room, years) || !isZero(behind(room)) {
						t.Fatalf("%s(%v, %v, %v): results share memory, or the years change", name, a.ids, a.rels, a.bounds)
					}
				}) {
					t.Fatalf("%s(%v, %v, %v) changes an argument", name, a.ids, a.rels, a.bounds)
				}
			}
		}
	}
}
