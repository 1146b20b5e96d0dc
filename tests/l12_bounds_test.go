package tests

import (
	"math"
	"math/rand"
	"slices"
	"testing"

	"loop.example/excavation/impl"
)

// bound is the bound of a context from a year to another one.
func bound(id, low, high int) impl.Bound {
	return impl.Bound{Context: id, Low: low, High: high}
}

// boundsBetween returns all valid bounds of a context whose limits are among some years.
func boundsBetween(id int, years ...int) []impl.Bound {
	var list []impl.Bound
	for _, low := range years {
		for _, high := range years {
			if low <= high {
				list = append(list, bound(id, low, high))
			}
		}
	}
	return list
}

// randomBound returns a valid bound of one of a few contexts; some have one year, and some begin at 0 or end at YearMax.
func randomBound(random *rand.Rand, contexts int) impl.Bound {
	ids := []int{7, 99, 1, 50, 12}
	low, high := random.Intn(1000), random.Intn(1000)
	switch random.Intn(6) {
	case 0:
		low = 0
	case 1:
		high = 999
	case 2:
		high = low
	}
	return bound(ids[random.Intn(contexts)], min(low, high), max(low, high))
}

// randomBounds returns valid bounds of each number, of one to five contexts; wide ones, which mostly overlap, are among them.
func randomBounds(rounds int) [][]impl.Bound {
	random := rand.New(rand.NewSource(12))
	var lists [][]impl.Bound
	for k := range rounds {
		for n := 1; n <= impl.BoundMax; n++ {
			var list []impl.Bound
			for range n {
				b := randomBound(random, 1+k%5)
				if k%2 == 0 {
					b.Low, b.High = b.Low/2, 999-(999-b.High)/2
				}
				list = append(list, b)
			}
			lists = append(lists, list)
		}
	}
	return lists
}

// validBounds returns valid bounds of each number.
func validBounds() [][]impl.Bound {
	lists := [][]impl.Bound{
		nil,
		{},
		{bound(1, 0, 0)},
		{bound(99, 999, 999)},
		{bound(99, 0, 999), bound(1, 0, 999)},
		{bound(5, 300, 400), bound(5, 300, 400)},
		{bound(5, 300, 400), bound(5, 401, 500), bound(4, 1, 998)},
		slices.Repeat([]impl.Bound{bound(42, 10, 20)}, impl.BoundMax),
	}
	for _, e := range boundExamples() {
		lists = append(lists, e.list)
	}
	return append(lists, randomBounds(40)...)
}

// notBounds returns invalid bounds, by what is wrong with them.
func notBounds() map[string]impl.Bound {
	return map[string]impl.Bound{
		"zero value":              {},
		"context 0":               bound(0, 100, 200),
		"context -1":              bound(-1, 100, 200),
		"context 100":             bound(impl.IdMax+1, 100, 200),
		"least context":           bound(math.MinInt, 100, 200),
		"greatest context":        bound(math.MaxInt, 100, 200),
		"first year -1":           bound(5, -1, 200),
		"both years -1":           bound(5, -1, -1),
		"least first year":        bound(5, math.MinInt, 200),
		"first year 1000":         bound(5, 1000, 1000),
		"first year 1000 alone":   bound(5, 1000, 999),
		"greatest first year":     bound(5, math.MaxInt, math.MaxInt),
		"last year before":        bound(5, 200, 199),
		"last year long before":   bound(5, 999, 0),
		"last year -1":            bound(5, 0, -1),
		"least last year":         bound(5, 0, math.MinInt),
		"last year 1000":          bound(5, 100, 1000),
		"last year 1000, from 0":  bound(5, 0, 1000),
		"greatest last year":      bound(5, 999, math.MaxInt),
		"least to greatest year":  bound(5, math.MinInt, math.MaxInt),
		"greatest to least year":  bound(5, math.MaxInt, math.MinInt),
		"exchanged years":         bound(5, 200, 100),
		"context and years wrong": bound(0, 200, 100),
	}
}

// invalidBounds returns invalid lists: an invalid bound alone, in front of, between and behind others, and too many bounds.
func invalidBounds() [][]impl.Bound {
	lists := [][]impl.Bound{
		slices.Repeat([]impl.Bound{bound(5, 100, 200)}, impl.BoundMax+1),
		append(slices.Repeat([]impl.Bound{bound(5, 100, 200)}, impl.BoundMax), bound(6, 0, 999)),
		append([]impl.Bound{bound(6, 0, 999)}, slices.Repeat([]impl.Bound{bound(5, 0, 999)}, impl.BoundMax)...),
		slices.Repeat([]impl.Bound{bound(7, 0, 999)}, 1000),
	}
	for _, b := range notBounds() {
		full := slices.Repeat([]impl.Bound{bound(5, 100, 200)}, impl.BoundMax-1)
		lists = append(lists,
			[]impl.Bound{b},
			[]impl.Bound{b, bound(5, 100, 200)},
			[]impl.Bound{bound(5, 100, 200), b},
			[]impl.Bound{bound(6, 100, 200), b, bound(5, 0, 999), bound(7, 4, 4)},
			append(full, b),
			append([]impl.Bound{b}, full...),
		)
	}
	return lists
}

// notIds returns numbers that no context can have.
func notIds() []int {
	return []int{0, -1, -5, -99, impl.IdMax + 1, 999, math.MinInt, math.MaxInt}
}

// someIds returns numbers of contexts: all that the lists of this file have, and others.
func someIds() []int {
	return []int{1, 2, 3, 4, 5, 6, 7, 8, 12, 42, 50, 98, 99}
}

// boundCount returns how many bounds a context has.
func boundCount(list []impl.Bound, id int) int {
	n := 0
	for _, b := range list {
		if b.Context == id {
			n++
		}
	}
	return n
}

// expectedYears returns the first and the last year of a context and whether there is one, found in another way: each year
// is held against all bounds.
func expectedYears(list []impl.Bound, id int) (int, int, bool) {
	var left []int
	for year := range 1000 {
		if !slices.ContainsFunc(list, func(b impl.Bound) bool { return b.Context == id && (year < b.Low || b.High < year) }) {
			left = append(left, year)
		}
	}
	if len(left) == 0 {
		return 0, 0, false
	}
	return left[0], left[len(left)-1], true
}

// isBoundsOf reports whether BoundsOf returns these values.
func isBoundsOf(list []impl.Bound, id, low, high int, ok bool) bool {
	gotLow, gotHigh, gotOk := impl.BoundsOf(list, id)
	return gotLow == low && gotHigh == high && gotOk == ok
}

// boundExample has bounds, and what they leave to the context 5.
type boundExample struct {
	list      []impl.Bound
	low, high int
	ok        bool
}

// boundExamples returns the cases that the document names, written out.
func boundExamples() map[string]boundExample {
	full := slices.Repeat([]impl.Bound{bound(6, 1, 998)}, impl.BoundMax-2)
	return map[string]boundExample{
		"no bounds":                    {nil, 0, 999, true},
		"bounds of another one":        {[]impl.Bound{bound(4, 300, 400)}, 0, 999, true},
		"bounds of others":             {[]impl.Bound{bound(4, 300, 400), bound(6, 500, 500), bound(50, 0, 10)}, 0, 999, true},
		"others without a year":        {[]impl.Bound{bound(4, 300, 400), bound(4, 500, 600)}, 0, 999, true},
		"as many others as can be":     {append(full, bound(4, 0, 0), bound(4, 9, 9)), 0, 999, true},
		"one bound":                    {[]impl.Bound{bound(5, 300, 400)}, 300, 400, true},
		"one bound of one year":        {[]impl.Bound{bound(5, 300, 300)}, 300, 300, true},
		"one bound of the year 0":      {[]impl.Bound{bound(5, 0, 0)}, 0, 0, true},
		"one bound of YearMax":         {[]impl.Bound{bound(5, 999, 999)}, 999, 999, true},
		"one bound of all years":       {[]impl.Bound{bound(5, 0, 999)}, 0, 999, true},
		"one bound from 0":             {[]impl.Bound{bound(5, 0, 400)}, 0, 400, true},
		"one bound to YearMax":         {[]impl.Bound{bound(5, 300, 999)}, 300, 999, true},
		"one among others":             {[]impl.Bound{bound(4, 500, 600), bound(5, 300, 400), bound(6, 350, 350)}, 300, 400, true},
		"among others without a year":  {[]impl.Bound{bound(4, 5, 6), bound(5, 300, 400), bound(4, 7, 8)}, 300, 400, true},
		"overlapping":                  {[]impl.Bound{bound(5, 100, 300), bound(5, 200, 900)}, 200, 300, true},
		"overlapping, the later first": {[]impl.Bound{bound(5, 200, 900), bound(5, 100, 300)}, 200, 300, true},
		"one within the other":         {[]impl.Bound{bound(5, 100, 900), bound(5, 200, 300)}, 200, 300, true},
		"one within the other, before": {[]impl.Bound{bound(5, 200, 300), bound(5, 100, 900)}, 200, 300, true},
		"the same first year":          {[]impl.Bound{bound(5, 100, 900), bound(5, 100, 300)}, 100, 300, true},
		"the same last year":           {[]impl.Bound{bound(5, 100, 900), bound(5, 300, 900)}, 300, 900, true},
		"touching in one year":         {[]impl.Bound{bound(5, 100, 300), bound(5, 300, 900)}, 300, 300, true},
		"touching, the later first":    {[]impl.Bound{bound(5, 300, 900), bound(5, 100, 300)}, 300, 300, true},
		"touching in the year 0":       {[]impl.Bound{bound(5, 0, 0), bound(5, 0, 999)}, 0, 0, true},
		"touching in YearMax":          {[]impl.Bound{bound(5, 0, 999), bound(5, 999, 999)}, 999, 999, true},
		"no year, neighbours":          {[]impl.Bound{bound(5, 100, 300), bound(5, 301, 900)}, 0, 0, false},
		"no year, the later first":     {[]impl.Bound{bound(5, 301, 900), bound(5, 100, 300)}, 0, 0, false},
		"no year, far apart":           {[]impl.Bound{bound(5, 0, 0), bound(5, 999, 999)}, 0, 0, false},
		"no year by the third one":     {[]impl.Bound{bound(5, 0, 500), bound(5, 400, 999), bound(5, 501, 999)}, 0, 0, false},
		"no year, others between":      {[]impl.Bound{bound(5, 0, 99), bound(4, 0, 999), bound(5, 100, 999)}, 0, 0, false},
		"no year, one for others":      {[]impl.Bound{bound(5, 0, 99), bound(4, 7, 7), bound(5, 200, 300)}, 0, 0, false},
		"the same bound twice":         {[]impl.Bound{bound(5, 300, 400), bound(5, 300, 400)}, 300, 400, true},
		"the same year twice":          {[]impl.Bound{bound(5, 300, 300), bound(5, 300, 300)}, 300, 300, true},
		"bounds from 0":                {[]impl.Bound{bound(5, 0, 400), bound(5, 0, 300), bound(5, 0, 500)}, 0, 300, true},
		"bounds to YearMax":            {[]impl.Bound{bound(5, 400, 999), bound(5, 600, 999), bound(5, 500, 999)}, 600, 999, true},
		"from 0 and to YearMax":        {[]impl.Bound{bound(5, 0, 600), bound(5, 400, 999)}, 400, 600, true},
		"BoundMax bounds":              {append(slices.Clone(full), bound(5, 200, 700), bound(5, 100, 600)), 200, 600, true},
		"overlapping among others":     {[]impl.Bound{bound(4, 5, 6), bound(5, 300, 400), bound(5, 350, 450), bound(6, 5, 6)}, 350, 400, true},
	}
}

func TestBoundConstants(t *testing.T) {
	if got := []int{impl.YearMax, impl.BoundMax}; !slices.Equal(got, []int{999, 12}) {
		t.Errorf("the constants are %v", got)
	}
}

func TestBoundsOfExamples(t *testing.T) {
	for name, e := range boundExamples() {
		if low, high, ok := impl.BoundsOf(e.list, 5); low != e.low || high != e.high || ok != e.ok {
			t.Errorf("%s: BoundsOf(%v, 5) returned %d, %d, %v", name, e.list, low, high, ok)
		}
		if !impl.BoundsValid(e.list) {
			t.Errorf("%s: BoundsValid(%v) is false", name, e.list)
		}
	}
}

func TestBoundsValid(t *testing.T) {
	for _, list := range validBounds() {
		if !impl.BoundsValid(list) {
			t.Errorf("BoundsValid(%v) is false", list)
		}
	}
	for _, list := range invalidBounds() {
		if impl.BoundsValid(list) {
			t.Errorf("BoundsValid(%v) is true", list)
		}
	}
	for name, b := range notBounds() {
		if impl.BoundsValid([]impl.Bound{b}) {
			t.Errorf("%s: BoundsValid of %v alone is true", name, b)
		}
	}
}

func TestBoundsValidForEachLimit(t *testing.T) {
	years := []int{-1000, -2, -1, 0, 1, 2, 499, 500, 501, 997, 998, 999, 1000, 1001, 2000}
	for id := -2; id <= impl.IdMax+3; id++ {
		for _, low := range years {
			for _, high := range years {
				b := bound(id, low, high)
				want := id >= 1 && id <= 99 && low >= 0 && low <= 999 && high >= low && high <= 999
				if impl.BoundsValid([]impl.Bound{b}) != want || impl.BoundsValid([]impl.Bound{bound(1, 0, 0), b}) != want {
					t.Fatalf("BoundsValid of %v is %v", b, !want)
				}
				if _, ok := impl.BoundsAdd(nil, b); ok != want {
					t.Fatalf("BoundsAdd of %v returned %v", b, ok)
				}
			}
		}
	}
}

// Bounds may be in any order: neither contexts nor years ascend.
func TestBoundsInAnyOrder(t *testing.T) {
	random := rand.New(rand.NewSource(57))
	for _, list := range validBounds() {
		back := slices.Clone(list)
		slices.Reverse(back)
		mixed := slices.Clone(list)
		random.Shuffle(len(mixed), func(i, j int) { mixed[i], mixed[j] = mixed[j], mixed[i] })
		for _, other := range [][]impl.Bound{back, mixed} {
			if !impl.BoundsValid(other) {
				t.Fatalf("BoundsValid(%v) is false", other)
			}
			for _, id := range someIds() {
				low, high, ok := impl.BoundsOf(list, id)
				if !isBoundsOf(other, id, low, high, ok) {
					t.Fatalf("BoundsOf of %d is different for %v and %v", id, list, other)
				}
			}
		}
	}
}

// Promise 53: the years are exactly those that all bounds of the context have; the limits are limits of these bounds.
func TestBoundsOf(t *testing.T) {
	several, none := 0, 0
	for _, list := range validBounds() {
		for _, id := range someIds() {
			low, high, ok := impl.BoundsOf(list, id)
			if wantLow, wantHigh, want := expectedYears(list, id); low != wantLow || high != wantHigh || ok != want {
				t.Fatalf("BoundsOf(%v, %d) returned %d, %d, %v", list, id, low, high, ok)
			}
			if !ok {
				none++
				continue
			}
			lowFound, highFound := low == 0, high == 999
			for _, b := range list {
				if b.Context != id {
					continue
				}
				if low < b.Low || high > b.High {
					t.Fatalf("BoundsOf(%v, %d) returned %d and %d, which is not in %v", list, id, low, high, b)
				}
				lowFound, highFound = lowFound || b.Low == low, highFound || b.High == high
			}
			if low > high || !lowFound || !highFound {
				t.Fatalf("BoundsOf(%v, %d) returned %d and %d", list, id, low, high)
			}
			if boundCount(list, id) > 2 {
				several++
			}
		}
	}
	if several < 100 || none < 100 {
		t.Errorf("only %d contexts have more than two bounds and a year, and %d have no year", several, none)
	}
}

// Promise 53: all lists of up to three bounds of the context or another one, whose limits are near each other.
func TestBoundsOfShortLists(t *testing.T) {
	bounds := append(boundsBetween(5, 0, 1, 998, 999), boundsBetween(8, 0, 999)...)
	for _, list := range listsUpTo(bounds, 3) {
		low, high, ok := expectedYears(list, 5)
		if !isBoundsOf(list, 5, low, high, ok) {
			t.Fatalf("BoundsOf(%v, 5) is not %d, %d, %v", list, low, high, ok)
		}
	}
}

// Promise 54: a context without bounds has all years, whatever the bounds of others are.
func TestBoundsOfContextWithoutBounds(t *testing.T) {
	for _, list := range validBounds() {
		for id := 1; id <= impl.IdMax; id++ {
			if boundCount(list, id) == 0 && !isBoundsOf(list, id, 0, 999, true) {
				t.Fatalf("BoundsOf(%v, %d) is not 0, 999 and true", list, id)
			}
		}
	}
}

// A bound of another context, also one that leaves it no year, does not change the years of a context.
func TestBoundsOfOtherContexts(t *testing.T) {
	for _, list := range validBounds() {
		for _, id := range someIds() {
			own := slices.DeleteFunc(slices.Clone(list), func(b impl.Bound) bool { return b.Context != id })
			low, high, ok := impl.BoundsOf(own, id)
			if !isBoundsOf(list, id, low, high, ok) {
				t.Fatalf("BoundsOf(%v, %d) is different without bounds of others", list, id)
			}
		}
	}
}

// The same bound twice leaves the same years.
func TestBoundsOfOneTwice(t *testing.T) {
	for _, list := range validBounds() {
		for i, b := range list {
			if len(list) == impl.BoundMax {
				continue
			}
			twice := slices.Insert(slices.Clone(list), i/2, b)
			low, high, ok := impl.BoundsOf(list, b.Context)
			if !isBoundsOf(twice, b.Context, low, high, ok) {
				t.Fatalf("BoundsOf(%v, %d) is different with %v twice", list, b.Context, b)
			}
		}
	}
}

// Without valid bounds there are no years, neither for the context of the wrong bound nor for others, also without bounds.
func TestBoundsOfInvalidBounds(t *testing.T) {
	for _, list := range invalidBounds() {
		for _, id := range append(someIds(), notIds()...) {
			if !isBoundsOf(list, id, 0, 0, false) {
				t.Fatalf("BoundsOf(%v, %d) is not 0, 0 and false", list, id)
			}
		}
	}
}

func TestBoundsOfInvalidNumbers(t *testing.T) {
	for _, list := range validBounds() {
		for _, id := range notIds() {
			if !isBoundsOf(list, id, 0, 0, false) {
				t.Fatalf("BoundsOf(%v, %d) is not 0, 0 and false", list, id)
			}
		}
	}
	for id := -2; id <= impl.IdMax+3; id++ {
		if _, _, ok := impl.BoundsOf(nil, id); ok != (id >= 1 && id <= 99) {
			t.Errorf("BoundsOf of no bounds and %d returned %v", id, ok)
		}
	}
}

// Promises 55 and 56: there is room exactly below BoundMax; the bound is the last one, and all others are kept in order.
func TestBoundsAdd(t *testing.T) {
	random := rand.New(rand.NewSource(55))
	full := 0
	for _, list := range validBounds() {
		bounds := []impl.Bound{bound(1, 0, 0), bound(99, 999, 999), bound(5, 0, 999), randomBound(random, 1), randomBound(random, 5)}
		for _, b := range append(bounds, list...) {
			got, ok := impl.BoundsAdd(list, b)
			want := slices.Clone(list)
			if len(list) < 12 {
				want = append(want, b)
			} else {
				full++
			}
			if ok != (len(list) < 12) || !slices.Equal(got, want) || !impl.BoundsValid(got) {
				t.Fatalf("BoundsAdd(%v, %v) returned %v, %v", list, b, got, ok)
			}
		}
	}
	if full < 100 {
		t.Errorf("only %d times there was no room", full)
	}
}

// Promise 55: a further bound never brings years back.
func TestBoundsAddLeavesFewerYears(t *testing.T) {
	random := rand.New(rand.NewSource(155))
	fewer, lost := 0, 0
	for _, list := range validBounds() {
		for range 5 {
			more, ok := impl.BoundsAdd(list, randomBound(random, 5))
			if !ok {
				continue
			}
			for _, id := range someIds() {
				oldLow, oldHigh, old := impl.BoundsOf(list, id)
				low, high, ok := impl.BoundsOf(more, id)
				if ok && (!old || low < oldLow || high > oldHigh) {
					t.Fatalf("BoundsOf(%v, %d) returned %d, %d, and %d, %d for %v", list, id, oldLow, oldHigh, low, high, more)
				}
				if ok && (low != oldLow || high != oldHigh) {
					fewer++
				}
				if !ok && old {
					lost++
				}
			}
		}
	}
	if fewer < 100 || lost < 100 {
		t.Errorf("only %d further bounds left fewer years, and %d no year", fewer, lost)
	}
}

// Promise 55: bounds that are added one after the other stand in this order, whatever contexts and years they have.
func TestBoundsAddInAnyOrder(t *testing.T) {
	want := []impl.Bound{
		bound(50, 400, 500), bound(99, 0, 0), bound(1, 999, 999), bound(50, 400, 500), bound(2, 300, 600), bound(50, 0, 100),
		bound(50, 0, 999), bound(49, 7, 8), bound(2, 1, 1), bound(99, 998, 999), bound(1, 0, 1), bound(3, 5, 5),
	}
	var list []impl.Bound
	for i, b := range want {
		var ok bool
		if list, ok = impl.BoundsAdd(list, b); !ok || !slices.Equal(list, want[:i+1]) {
			t.Fatalf("BoundsAdd of %v returned %v, %v", b, list, ok)
		}
	}
	for _, b := range append(want, bound(4, 0, 999)) {
		if got, ok := impl.BoundsAdd(list, b); ok || !slices.Equal(got, want) {
			t.Errorf("BoundsAdd of %v returned %v, %v", b, got, ok)
		}
	}
}

// Invalid arguments are checked first: a lack of room does not bring the bounds back.
func TestBoundsAddOfInvalidArguments(t *testing.T) {
	for _, list := range invalidBounds() {
		for _, b := range []impl.Bound{bound(5, 100, 200), bound(1, 0, 0), bound(99, 999, 999)} {
			if got, ok := impl.BoundsAdd(list, b); ok || len(got) != 0 {
				t.Errorf("BoundsAdd(%v, %v) returned %v, %v", list, b, got, ok)
			}
		}
	}
	for name, b := range notBounds() {
		for _, list := range append(validBounds(), invalidBounds()...) {
			if got, ok := impl.BoundsAdd(list, b); ok || len(got) != 0 {
				t.Fatalf("%s: BoundsAdd(%v, %v) returned %v, %v", name, list, b, got, ok)
			}
		}
	}
}

// Promise 57: without any one bound they stay valid; with one whose last year is less than its first one they are not.
func TestBoundsWithoutOneAndWithOneWrong(t *testing.T) {
	for _, list := range validBounds() {
		for i, b := range list {
			if rest := without(list, i); !impl.BoundsValid(rest) {
				t.Fatalf("BoundsValid(%v) is false", rest)
			}
			for _, high := range []int{b.Low - 1, b.Low / 2, 0, -1, math.MinInt} {
				wrong := slices.Clone(list)
				wrong[i].High = high
				if want := high >= b.Low; impl.BoundsValid(wrong) != want {
					t.Fatalf("BoundsValid(%v) is %v", wrong, !want)
				}
			}
			for _, low := range []int{b.High + 1, 1000, math.MaxInt} {
				wrong := slices.Clone(list)
				wrong[i].Low = low
				if impl.BoundsValid(wrong) {
					t.Fatalf("BoundsValid(%v) is true", wrong)
				}
			}
		}
	}
}

func TestFindBoundExamples(t *testing.T) {
	examples := map[string]struct {
		years []int
		low   int
	}{
		"no finds":             {nil, 0},
		"empty list":           {[]int{}, 0},
		"one find":             {[]int{300}, 300},
		"ascending":            {[]int{100, 200, 300}, 300},
		"descending":           {[]int{300, 200, 100}, 300},
		"greatest in between":  {[]int{120, 340, 200}, 340},
		"equal years":          {[]int{250, 250, 250}, 250},
		"the greatest twice":   {[]int{250, 10, 250, 0}, 250},
		"the year 0":           {[]int{0}, 0},
		"the year 0 alone":     {[]int{0, 0, 0}, 0},
		"the year 1":           {[]int{0, 1, 0}, 1},
		"YearMax":              {[]int{999}, 999},
		"YearMax first":        {[]int{999, 0, 500}, 999},
		"YearMax last":         {[]int{0, 500, 998, 999}, 999},
		"BoundMax finds":       {numbersOf(impl.BoundMax, 7, 10), 117},
		"one more":             {numbersOf(impl.BoundMax+1, 7, 10), 127},
		"one more, descending": {numbersOf(impl.BoundMax+1, 127, -10), 127},
		"all years":            {numbersOf(1000, 0, 1), 999},
		"all years, back":      {numbersOf(1000, 999, -1), 999},
		"very many finds":      {append(slices.Repeat([]int{3, 1, 4, 1, 5}, 20000), 500, 6), 500},
	}
	for name, e := range examples {
		for _, id := range []int{1, 4, 50, impl.IdMax} {
			if got, ok := impl.FindBound(id, e.years); !ok || got != bound(id, e.low, 999) {
				t.Errorf("%s: FindBound of %d returned %v, %v", name, id, got, ok)
			}
		}
	}
}

// Promise 58: no find is later than the first year, which is the year of one of them; the last year is YearMax.
func TestFindBound(t *testing.T) {
	random := rand.New(rand.NewSource(58))
	for n := range 60 {
		for range 20 {
			most := []int{1, 5, 100, 1000}[random.Intn(4)]
			var years []int
			for range n {
				years = append(years, random.Intn(most))
			}
			id := 1 + random.Intn(impl.IdMax)
			got, ok := impl.FindBound(id, years)
			if !ok || got.Context != id || got.High != 999 {
				t.Fatalf("FindBound(%d, %v) returned %v, %v", id, years, got, ok)
			}
			if later := func(year int) bool { return year > got.Low }; slices.ContainsFunc(years, later) {
				t.Fatalf("FindBound(%d, %v) returned %v, but a find is later", id, years, got)
			}
			if n == 0 && got.Low != 0 || n > 0 && !slices.Contains(years, got.Low) {
				t.Fatalf("FindBound(%d, %v) returned %v", id, years, got)
			}
		}
	}
}

// The bound of finds is valid, and leaves its own years to the context and all years to others.
func TestFindBoundIsBound(t *testing.T) {
	for _, years := range [][]int{nil, {0}, {999}, {5, 700, 30}, {500}} {
		for id := 1; id <= impl.IdMax; id++ {
			b, ok := impl.FindBound(id, years)
			list, added := impl.BoundsAdd(nil, b)
			if !ok || !added || !isBoundsOf(list, id, b.Low, 999, true) {
				t.Fatalf("FindBound(%d, %v) returned %v, %v", id, years, b, ok)
			}
			if other := 1 + id%impl.IdMax; !isBoundsOf(list, other, 0, 999, true) {
				t.Fatalf("FindBound(%d, %v) bounds another context", id, years)
			}
		}
	}
}

func TestFindBoundOfInvalidNumbers(t *testing.T) {
	for _, id := range notIds() {
		for _, years := range [][]int{nil, {}, {0}, {300}, {999, 5}, {1000}, {-1}} {
			if got, ok := impl.FindBound(id, years); ok || got != (impl.Bound{}) {
				t.Errorf("FindBound(%d, %v) returned %v, %v", id, years, got, ok)
			}
		}
	}
	for id := -2; id <= impl.IdMax+3; id++ {
		if _, ok := impl.FindBound(id, []int{300}); ok != (id >= 1 && id <= 99) {
			t.Errorf("FindBound of %d returned %v", id, ok)
		}
	}
}

// A year out of range fails wherever it stands: alone, at the beginning, in between and at the end.
func TestFindBoundOfInvalidYears(t *testing.T) {
	for _, wrong := range []int{-1, -2, -1000, impl.YearMax + 1, impl.YearMax + 2, 10000, math.MinInt, math.MaxInt} {
		for _, years := range [][]int{
			{wrong},
			{wrong, wrong},
			{wrong, 300},
			{300, wrong},
			{wrong, 0, 999},
			{0, wrong, 999},
			{0, 999, wrong},
			append(numbersOf(impl.BoundMax, 1, 1), wrong),
			append([]int{wrong}, numbersOf(1000, 0, 1)...),
			append(numbersOf(1000, 0, 1), wrong),
		} {
			if got, ok := impl.FindBound(5, years); ok || got != (impl.Bound{}) {
				t.Errorf("FindBound(5, %v) returned %v, %v", years, got, ok)
			}
		}
	}
	for year := -5; year <= 1005; year++ {
		if _, ok := impl.FindBound(5, []int{year}); ok != (year >= 0 && year <= 999) {
			t.Errorf("FindBound of the year %d returned %v", year, ok)
		}
	}
}

// BoundsAdd changes no argument, and its results share no memory, also where a bound would fit behind the argument.
func TestBoundsAddSharesNoMemory(t *testing.T) {
	for _, list := range append(validBounds(), invalidBounds()...) {
		for _, b := range []impl.Bound{bound(5, 100, 200), bound(99, 0, 999), bound(0, 0, 0)} {
			room := withRoom(list, impl.BoundMax)
			first, _ := impl.BoundsAdd(room, b)
			second, _ := impl.BoundsAdd(room, b)
			want := slices.Clone(second)
			overwrite(first, bound(-7, -7, -7))
			if !slices.Equal(room, list) || !slices.Equal(second, want) {
				t.Fatalf("the result of BoundsAdd(%v, %v) shares memory", list, b)
			}
			if !isZero(behind(room)) {
				t.Fatalf("BoundsAdd(%v, %v) wrote behind the list: %v", list, b, behind(room))
			}
		}
	}
}

// BoundsValid and BoundsOf change no argument, and return the same again.
func TestBoundsReadingChangesNothing(t *testing.T) {
	for _, list := range append(validBounds(), invalidBounds()...) {
		room := withRoom(list, impl.BoundMax)
		valid := impl.BoundsValid(room)
		for _, id := range append(someIds(), 0, impl.IdMax+1) {
			low, high, ok := impl.BoundsOf(room, id)
			if !isBoundsOf(room, id, low, high, ok) || impl.BoundsValid(room) != valid {
				t.Fatalf("BoundsOf(%v, %d) or BoundsValid returned something else again", list, id)
			}
		}
		if !slices.Equal(room, list) || !isZero(behind(room)) {
			t.Fatalf("%v became %v, and %v behind it", list, room, behind(room))
		}
	}
}

// FindBound changes no years, and its result stays when they change.
func TestFindBoundChangesNothing(t *testing.T) {
	for _, years := range [][]int{nil, {300}, {120, 340, 200}, {5, 5, 3, 999, 0}, {5, -1, 7}, {1000, 5}, numbersOf(100, 900, -9)} {
		for _, id := range []int{0, 1, 5, impl.IdMax, impl.IdMax + 1} {
			room := withRoom(years, 8)
			first, ok := impl.FindBound(id, room)
			second, again := impl.FindBound(id, room)
			if first != second || ok != again {
				t.Errorf("FindBound(%d, %v) returned %v, and then %v", id, years, first, second)
			}
			if !slices.Equal(room, years) || !isZero(behind(room)) {
				t.Errorf("%v became %v, and %v behind it", years, room, behind(room))
			}
		}
	}
}
