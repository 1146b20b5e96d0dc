package tests

import (
	"math"
	"math/rand"
	"slices"
	"testing"

	"loop.example/excavation/impl"
)

// digCases returns cases with a valid order and any number of contexts, often 6 or less; they are the same in each run.
func digCases(n int) []groupCase {
	random := rand.New(rand.NewSource(5))
	var cases []groupCase
	for k := range n {
		size := k % (impl.ContextMax + 1)
		if k%2 == 0 {
			size = k / 2 % 7
		}
		ids := numbersOf(size, 1+random.Intn(9), 1+random.Intn(8))
		order := shuffled(random, ids)
		var rels []impl.Rel
		for range random.Intn(2 + size*size/2) {
			i, j := random.Intn(size+1), random.Intn(size+1)
			if i < j && j < size {
				rels = append(rels, above(order[i], order[j]))
			}
		}
		if i := random.Intn(size + 1); k%3 == 0 && i+1 < size {
			equal := chain(order[i : i+2])
			rels = slices.DeleteFunc(rels, func(r impl.Rel) bool { return r == above(order[i], order[i+1]) })
			rels = append(rels, equal...)
		}
		cases = append(cases, groupCase{ids, firstRels(random, rels)})
	}
	return cases
}

// validCases returns all cases with a valid order.
func validCases() []groupCase {
	cases := append(orderCases(), digCases(600)...)
	return slices.DeleteFunc(cases, func(c groupCase) bool { return !impl.OrderValid(c.ids, c.rels) })
}

// shortCases returns all cases with a valid order and at most 6 contexts.
func shortCases() []groupCase {
	return slices.DeleteFunc(validCases(), func(c groupCase) bool { return len(c.ids) > 6 })
}

// setsOf returns sets for a case: empty, of one context, of several, of all, with and without contexts that are missing.
func setsOf(random *rand.Rand, c groupCase) [][]int {
	sets := [][]int{nil, {}, c.ids, {1}, {impl.IdMax}, {1, 2, 9, 50, 98, 99}, numbersOf(impl.ContextMax, 1, 1), numbersOf(impl.ContextMax, 88, 1)}
	for _, id := range c.ids {
		sets = append(sets, []int{id})
	}
	for range 4 {
		some := shuffled(random, c.ids)[:random.Intn(len(c.ids)+1)]
		for len(some) < impl.ContextMax && random.Intn(3) > 0 {
			some = append(some, 1+random.Intn(impl.IdMax))
		}
		sets = append(sets, slices.Compact(slices.Sorted(slices.Values(some))))
	}
	return sets
}

// expectedSet returns the contexts that lie above some context of a set, or below one, found from an order.
func expectedSet(c groupCase, order [][]bool, set []int, aboveSet bool) []int {
	var list []int
	for i, id := range c.ids {
		if slices.ContainsFunc(set, func(other int) bool {
			j := slices.Index(c.ids, other)
			return j >= 0 && (aboveSet && order[i][j] || !aboveSet && order[j][i])
		}) {
			list = append(list, id)
		}
	}
	return list
}

// expectedDig returns the order in which contexts are dug, found in another way: by a search from the least context on.
func expectedDig(c groupCase) []int {
	order := expectedOrder(c)
	var dug []int
	for len(dug) < len(c.ids) {
		next := slices.IndexFunc(c.ids, func(id int) bool {
			i := slices.Index(c.ids, id)
			return !slices.Contains(dug, id) && !slices.ContainsFunc(c.ids, func(other int) bool {
				return order[slices.Index(c.ids, other)][i] && !slices.Contains(dug, other)
			})
		})
		dug = append(dug, c.ids[next])
	}
	return dug
}

// expectedValid reports, for a valid order of contexts, whether these can be dug as a list has them, by all pairs of it.
func expectedValid(c groupCase, order [][]bool, list []int) bool {
	if !slices.Equal(slices.Sorted(slices.Values(list)), c.ids) {
		return false
	}
	for i, first := range list {
		for _, second := range list[i+1:] {
			if order[slices.Index(c.ids, second)][slices.Index(c.ids, first)] {
				return false
			}
		}
	}
	return true
}

// isPart reports whether a list has all numbers of another one.
func isPart(part, list []int) bool {
	return !slices.ContainsFunc(part, func(id int) bool { return !slices.Contains(list, id) })
}

// factorial returns in how many orders n contexts can be put.
func factorial(n int) int {
	if n == 0 {
		return 1
	}
	return n * factorial(n-1)
}

func TestAboveAllAndBelowAllExamples(t *testing.T) {
	six := []int{1, 2, 3, 4, 5, 6}
	examples := map[string]struct {
		ids   []int
		text  string
		set   []int
		above []int
		below []int
	}{
		"no contexts":                   {nil, "", nil, nil, nil},
		"no contexts, but a set":        {nil, "", []int{1, 2}, nil, nil},
		"one context":                   {[]int{7}, "", []int{7}, nil, nil},
		"no relations":                  {six, "", six, nil, nil},
		"equalities alone":              {six, "1=2 2=3", []int{1, 2}, nil, nil},
		"empty set":                     {six, "1>2 2>3", nil, nil, nil},
		"one of a set":                  {six, "1>2 2>3", []int{2}, []int{1}, []int{3}},
		"through others":                {six, "1>2 2>3 3>4", []int{3}, []int{1, 2}, []int{4}},
		"several of a set":              {six, "1>4 2>5 3>6", []int{4, 5}, []int{1, 2}, nil},
		"several of a set, from above":  {six, "1>4 2>5 3>6", []int{1, 2}, nil, []int{4, 5}},
		"one inside of the set":         {six, "1>2 2>3", []int{1, 2, 3}, []int{1, 2}, []int{2, 3}},
		"not ascending relations":       {six, "6>1 5>1 1>2", []int{1}, []int{5, 6}, []int{2}},
		"two ways":                      {six, "1>2 1>3 2>4 3>4", []int{2, 3}, []int{1}, []int{4}},
		"some are missing":              {six, "1>2 2>3", []int{2, 7, 99}, []int{1}, []int{3}},
		"missing before others":         {[]int{3, 4, 5}, "3>4 4>5", []int{1, 2, 4}, []int{3}, []int{5}},
		"missing between others":        {[]int{1, 5, 9}, "1>5 5>9", []int{2, 5, 7}, []int{1}, []int{9}},
		"all are missing":               {six, "1>2 2>3", []int{7, 8, 99}, nil, nil},
		"above itself":                  {six, "1>2 2>1 2>3", []int{2}, []int{1, 2}, []int{1, 2, 3}},
		"above itself by an equality":   {six, "2>3 2=3", []int{3}, []int{2, 3}, []int{2, 3}},
		"below a circle":                {six, "1>2 2>1 2>3", []int{3}, []int{1, 2}, nil},
		"above a circle":                {six, "3>2 1>2 2>1", []int{3}, nil, []int{1, 2}},
		"one of a group is told":        {six, "1=4 2=5 4>2", []int{2}, []int{1, 4}, nil},
		"the other of a group":          {six, "1=4 2=5 4>2", []int{5}, []int{1, 4}, nil},
		"one of a group is told, below": {six, "1=4 2=5 4>2", []int{1}, nil, []int{2, 5}},
		"the other of a group, below":   {six, "1=4 2=5 4>2", []int{4}, nil, []int{2, 5}},
		"through a group":               {six, "1>2 2=5 5>6", []int{6}, []int{1, 2, 5}, nil},
		"the greatest numbers":          {[]int{98, 99}, "99>98", []int{98}, []int{99}, nil},
		"the greatest numbers, below":   {[]int{98, 99}, "99>98", []int{99}, nil, []int{98}},
	}
	for name, e := range examples {
		rels := parsed(t, e.text)
		if got := impl.AboveAll(e.ids, rels, e.set); !slices.Equal(got, e.above) {
			t.Errorf("%s: AboveAll returned %v, not %v", name, got, e.above)
		}
		if got := impl.BelowAll(e.ids, rels, e.set); !slices.Equal(got, e.below) {
			t.Errorf("%s: BelowAll returned %v, not %v", name, got, e.below)
		}
	}
}

// Promise 34: AboveAll has what lies above some context of the set, and BelowAll what some context of it lies above.
func TestAboveAllAndBelowAll(t *testing.T) {
	random := rand.New(rand.NewSource(34))
	for _, c := range orderCases() {
		order := expectedOrder(c)
		for _, set := range setsOf(random, c) {
			got, want := impl.AboveAll(c.ids, c.rels, set), expectedSet(c, order, set, true)
			if !slices.Equal(got, want) {
				t.Fatalf("AboveAll(%v, %v, %v) returned %v, not %v", c.ids, c.rels, set, got, want)
			}
			got, want = impl.BelowAll(c.ids, c.rels, set), expectedSet(c, order, set, false)
			if !slices.Equal(got, want) {
				t.Fatalf("BelowAll(%v, %v, %v) returned %v, not %v", c.ids, c.rels, set, got, want)
			}
		}
	}
}

// Promise 34: a context is in AboveAll exactly if OrderAbove holds for it and some context of the set.
func TestAboveAllIsOrderAbove(t *testing.T) {
	random := rand.New(rand.NewSource(340))
	for _, c := range append(groupCases(), circleCases(10)...) {
		for _, set := range setsOf(random, c) {
			got := impl.AboveAll(c.ids, c.rels, set)
			for _, id := range c.ids {
				want := slices.ContainsFunc(set, func(other int) bool { return impl.OrderAbove(c.ids, c.rels, id, other) })
				if slices.Contains(got, id) != want {
					t.Fatalf("AboveAll(%v, %v, %v) returned %v", c.ids, c.rels, set, got)
				}
			}
			if !impl.IdsValid(got) || !isPart(got, c.ids) {
				t.Fatalf("AboveAll(%v, %v, %v) returned %v", c.ids, c.rels, set, got)
			}
		}
	}
}

// Promise 35: what lies above what lies above a set lies above the set.
func TestAboveAllOfAboveAll(t *testing.T) {
	random := rand.New(rand.NewSource(35))
	for _, c := range orderCases() {
		for _, set := range setsOf(random, c) {
			once := impl.AboveAll(c.ids, c.rels, set)
			if twice := impl.AboveAll(c.ids, c.rels, once); !isPart(twice, once) {
				t.Fatalf("AboveAll(%v, %v) of %v is %v, and of this %v", c.ids, c.rels, set, once, twice)
			}
		}
	}
}

// Promise 36: a context is below another one exactly if that one is above it.
func TestBelowAllIsTheOtherWay(t *testing.T) {
	for _, c := range orderCases() {
		for _, id := range c.ids {
			below := impl.BelowAll(c.ids, c.rels, []int{id})
			for _, other := range c.ids {
				over := impl.AboveAll(c.ids, c.rels, []int{other})
				if slices.Contains(below, other) != slices.Contains(over, id) {
					t.Fatalf("%v, %v: %v below %d, and %v above %d", c.ids, c.rels, below, id, over, other)
				}
			}
			if !impl.IdsValid(below) || !isPart(below, c.ids) {
				t.Fatalf("BelowAll(%v, %v, [%d]) returned %v", c.ids, c.rels, id, below)
			}
		}
	}
}

// Promise 37: without any one context of the set nothing is added.
func TestBelowAllWithoutOne(t *testing.T) {
	random := rand.New(rand.NewSource(37))
	for _, c := range orderCases() {
		for _, set := range setsOf(random, c) {
			all := impl.BelowAll(c.ids, c.rels, set)
			for i := range set {
				if fewer := impl.BelowAll(c.ids, c.rels, without(set, i)); !isPart(fewer, all) {
					t.Fatalf("BelowAll(%v, %v, %v) is %v, and without %d %v", c.ids, c.rels, set, all, set[i], fewer)
				}
			}
		}
	}
}

// A set may have ContextMax contexts, and each of them may be missing.
func TestSetsAtLimit(t *testing.T) {
	for _, ids := range [][]int{numbersOf(impl.ContextMax, 1, 1), numbersOf(impl.ContextMax, 88, 1), numbersOf(impl.ContextMax, 4, 8)} {
		rels := pathOf(ids)
		if got := impl.AboveAll(ids, rels, ids); !slices.Equal(got, ids[:len(ids)-1]) {
			t.Errorf("AboveAll(%v, %v, %v) returned %v", ids, rels, ids, got)
		}
		if got := impl.BelowAll(ids, rels, ids); !slices.Equal(got, ids[1:]) {
			t.Errorf("BelowAll(%v, %v, %v) returned %v", ids, rels, ids, got)
		}
	}
	ids, missing := numbersOf(impl.ContextMax, 1, 1), numbersOf(impl.ContextMax, 13, 7)
	for i := range missing {
		set := slices.Concat([]int{6}, missing[i+1:])
		if got := impl.AboveAll(ids, pathOf(ids), set); !slices.Equal(got, []int{1, 2, 3, 4, 5}) {
			t.Errorf("AboveAll with the set %v returned %v", set, got)
		}
		if got := impl.BelowAll(ids, pathOf(ids), set); !slices.Equal(got, []int{7, 8, 9, 10, 11, 12}) {
			t.Errorf("BelowAll with the set %v returned %v", set, got)
		}
	}
	if got := impl.AboveAll(ids, pathOf(ids), missing); len(got) != 0 {
		t.Errorf("AboveAll of missing contexts returned %v", got)
	}
	if got := impl.BelowAll(ids, pathOf(ids), missing); len(got) != 0 {
		t.Errorf("BelowAll of missing contexts returned %v", got)
	}
}

// Nothing is above or below an invalid set, also if some of it would have contexts above and below it.
func TestInvalidSets(t *testing.T) {
	ids := numbersOf(impl.ContextMax, 1, 1)
	for _, rels := range [][]impl.Rel{pathOf(ids), circleOf(ids)} {
		for name, set := range invalidIds() {
			if got := impl.AboveAll(ids, rels, set); len(got) != 0 {
				t.Errorf("%s: AboveAll(%v, %v, %v) returned %v", name, ids, rels, set, got)
			}
			if got := impl.BelowAll(ids, rels, set); len(got) != 0 {
				t.Errorf("%s: BelowAll(%v, %v, %v) returned %v", name, ids, rels, set, got)
			}
		}
	}
}

// digExample has arguments as a text, the order in which contexts are dug, and the number of all orders.
type digExample struct {
	ids   []int
	text  string
	order []int
	count int
}

// digExamples returns valid orders that the document names, written out.
func digExamples() map[string]digExample {
	four, six := []int{1, 2, 3, 4}, []int{1, 2, 3, 4, 5, 6}
	return map[string]digExample{
		"no contexts":               {nil, "", nil, 1},
		"one context":               {[]int{7}, "", []int{7}, 1},
		"the greatest number":       {[]int{99}, "", []int{99}, 1},
		"two contexts":              {[]int{3, 9}, "", []int{3, 9}, 2},
		"the greater one first":     {[]int{3, 9}, "9>3", []int{9, 3}, 1},
		"no relations":              {six, "", six, 720},
		"seven contexts":            {[]int{1, 2, 3, 4, 5, 6, 7}, "", []int{1, 2, 3, 4, 5, 6, 7}, -1},
		"seven contexts in a row":   {[]int{1, 2, 3, 4, 5, 6, 7}, "7>6 6>5 5>4 4>3 3>2 2>1", []int{7, 6, 5, 4, 3, 2, 1}, -1},
		"six contexts in a row":     {six, "6>5 5>4 4>3 3>2 2>1", []int{6, 5, 4, 3, 2, 1}, 1},
		"one relation":              {[]int{1, 2, 3}, "2>1", []int{2, 1, 3}, 3},
		"free ones come first":      {four, "4>1", []int{2, 3, 4, 1}, 12},
		"a freed one comes at once": {four, "3>1 4>2", []int{3, 1, 4, 2}, 6},
		"a freed one waits":         {four, "1>4 2>3", []int{1, 2, 3, 4}, 6},
		"a freed one of several":    {six, "1>6 2>3 2>4 6>5", []int{1, 2, 3, 4, 6, 5}, 40},
		"two above one":             {four, "2>1 4>1", []int{2, 3, 4, 1}, 8},
		"one above two":             {four, "3>1 3>2", []int{3, 1, 2, 4}, 8},
		"two ways":                  {four, "4>2 4>3 2>1 3>1", []int{4, 2, 3, 1}, 2},
		"a relation that follows":   {four, "4>2 2>1 4>1", []int{3, 4, 2, 1}, 4},
		"equalities alone":          {four, "1=2 3=4", four, 24},
		"all are one group":         {four, "1=2 2=3 3=4", four, 24},
		"a group above one":         {[]int{1, 2, 3}, "1=3 3>2", []int{1, 3, 2}, 2},
		"one above a group":         {[]int{1, 2, 3}, "1=3 2>3", []int{2, 1, 3}, 2},
		"a group with one between":  {[]int{1, 2, 3}, "1=3", []int{1, 2, 3}, 6},
		"a group above a group":     {four, "1=4 2=3 4>2", []int{1, 4, 2, 3}, 4},
		"a group below a group":     {four, "1=4 2=3 2>4", []int{2, 3, 1, 4}, 4},
		"through a group":           {four, "1=2 3>1 2>4", []int{3, 1, 2, 4}, 2},
		"numbers with two digits":   {[]int{9, 10, 11}, "10>9", []int{10, 9, 11}, 3},
	}
}

func TestDigExamples(t *testing.T) {
	for name, e := range digExamples() {
		rels := parsed(t, e.text)
		if got, ok := impl.DigOrder(e.ids, rels); !ok || !slices.Equal(got, e.order) {
			t.Errorf("%s: DigOrder returned %v, %v, not %v", name, got, ok, e.order)
		}
		if !impl.DigValid(e.ids, rels, e.order) {
			t.Errorf("%s: DigValid is false for %v", name, e.order)
		}
		if got := impl.DigCount(e.ids, rels); got != e.count {
			t.Errorf("%s: DigCount returned %d, not %d", name, got, e.count)
		}
	}
}

func TestDigOrder(t *testing.T) {
	for _, c := range validCases() {
		got, ok := impl.DigOrder(c.ids, c.rels)
		if want := expectedDig(c); !ok || !slices.Equal(got, want) {
			t.Fatalf("DigOrder(%v, %v) returned %v, %v, not %v", c.ids, c.rels, got, ok, want)
		}
	}
}

// Promise 38: DigOrder succeeds exactly if OrderValid holds, has each context once, and is valid.
func TestDigOrderIsValid(t *testing.T) {
	for _, c := range append(orderCases(), digCases(300)...) {
		list, ok := impl.DigOrder(c.ids, c.rels)
		if ok != impl.OrderValid(c.ids, c.rels) || !ok && len(list) != 0 {
			t.Fatalf("DigOrder(%v, %v) returned %v, %v", c.ids, c.rels, list, ok)
		}
		if ok && (!slices.Equal(slices.Sorted(slices.Values(list)), c.ids) || !impl.DigValid(c.ids, c.rels, list)) {
			t.Fatalf("DigOrder(%v, %v) returned %v", c.ids, c.rels, list)
		}
	}
}

// Promise 39: where the greater number comes first, it lies above the lesser one behind it.
func TestDigOrderCannotBeExchanged(t *testing.T) {
	for _, c := range validCases() {
		list, _ := impl.DigOrder(c.ids, c.rels)
		for i := 1; i < len(list); i++ {
			exchanged := slices.Clone(list)
			exchanged[i-1], exchanged[i] = list[i], list[i-1]
			if list[i-1] > list[i] && impl.DigValid(c.ids, c.rels, exchanged) {
				t.Fatalf("DigOrder(%v, %v) returned %v, but %v is valid", c.ids, c.rels, list, exchanged)
			}
		}
	}
}

// Five contexts are dug in each order that is valid, and in no other one.
func TestDigValid(t *testing.T) {
	random := rand.New(rand.NewSource(38))
	for _, c := range validCases() {
		order := expectedOrder(c)
		lists := [][]int{c.ids, shuffled(random, c.ids), shuffled(random, c.ids), expectedDig(c)}
		if len(c.ids) < 5 || len(c.ids) == 5 && random.Intn(10) == 0 {
			lists = append(lists, permutations(c.ids)...)
		}
		for _, list := range lists {
			if got := impl.DigValid(c.ids, c.rels, list); got != expectedValid(c, order, list) {
				t.Fatalf("DigValid(%v, %v, %v) returned %v", c.ids, c.rels, list, got)
			}
		}
	}
}

// Neighbours of a valid order are exchanged, which is valid exactly if the first one does not lie above the second one.
func TestDigValidOfNeighbours(t *testing.T) {
	for _, c := range validCases() {
		order, list := expectedOrder(c), expectedDig(c)
		for i := 1; i < len(list); i++ {
			exchanged := slices.Clone(list)
			exchanged[i-1], exchanged[i] = list[i], list[i-1]
			if got := impl.DigValid(c.ids, c.rels, exchanged); got != expectedValid(c, order, exchanged) {
				t.Fatalf("DigValid(%v, %v, %v) returned %v", c.ids, c.rels, exchanged, got)
			}
		}
	}
}

// Promise 40: if an order is valid, what comes behind a context does not lie above it.
func TestDigValidKeepsOrder(t *testing.T) {
	random := rand.New(rand.NewSource(40))
	for _, c := range validCases() {
		dug, _ := impl.DigOrder(c.ids, c.rels)
		for _, list := range [][]int{c.ids, dug, shuffled(random, c.ids)} {
			if !impl.DigValid(c.ids, c.rels, list) {
				continue
			}
			for i, first := range list {
				for _, second := range list[i+1:] {
					if impl.OrderAbove(c.ids, c.rels, second, first) {
						t.Fatalf("DigValid(%v, %v, %v) holds", c.ids, c.rels, list)
					}
				}
			}
		}
	}
}

// Contexts of a group may stand in any order, one behind the other or apart.
func TestDigValidOfGroups(t *testing.T) {
	ids, rels := []int{1, 2, 3, 4, 5}, []impl.Rel{same(1, 3), above(3, 4)}
	for _, list := range [][]int{{1, 2, 3, 4, 5}, {3, 2, 1, 4, 5}, {1, 3, 4, 2, 5}, {3, 1, 4, 5, 2}, {5, 3, 2, 1, 4}} {
		if !impl.DigValid(ids, rels, list) {
			t.Errorf("DigValid(%v, %v, %v) is false", ids, rels, list)
		}
	}
	for _, list := range [][]int{{1, 2, 4, 3, 5}, {3, 2, 4, 1, 5}, {4, 1, 3, 2, 5}, {5, 3, 4, 2, 1}} {
		if impl.DigValid(ids, rels, list) {
			t.Errorf("DigValid(%v, %v, %v) is true", ids, rels, list)
		}
	}
}

// wrongLists returns lists that are no orders of all contexts, made from one that is.
func wrongLists(ids, list []int) [][]int {
	missing := 1
	for slices.Contains(ids, missing) {
		missing++
	}
	wrong := [][]int{numbersOf(500, 1, 1), slices.Concat(list, list, []int{missing}), slices.Repeat([]int{missing}, len(list)+1)}
	for _, number := range append([]int{missing, 0, 100, math.MinInt, math.MaxInt}, list...) {
		wrong = append(wrong, append(slices.Clone(list), number), append([]int{number}, list...))
	}
	if len(list) > 0 {
		wrong = append(wrong, nil)
	}
	for i, id := range list {
		wrong = append(wrong, without(list, i))
		for _, number := range append([]int{missing, 0, -1, -id, id - 100, id + 100, id + 64, id + 256, math.MinInt, math.MaxInt}, list...) {
			other := slices.Clone(list)
			other[i] = number
			wrong = append(wrong, other)
		}
	}
	return slices.DeleteFunc(wrong, func(list []int) bool { return slices.Equal(slices.Sorted(slices.Values(list)), ids) })
}

// A list that has not each context once is no order.
func TestDigValidOfWrongLists(t *testing.T) {
	for _, c := range append(groupCases(), digCases(60)...) {
		if !impl.OrderValid(c.ids, c.rels) {
			continue
		}
		for _, list := range wrongLists(c.ids, expectedDig(c)) {
			if impl.DigValid(c.ids, c.rels, list) {
				t.Fatalf("DigValid(%v, %v, %v) is true", c.ids, c.rels, list)
			}
		}
	}
}

func TestDigCount(t *testing.T) {
	most := 0
	for _, c := range shortCases() {
		// Five contexts have many cases of equalities alone, which need not all be counted in the slow way.
		if len(c.ids) == 5 && len(aboves(c.rels)) == 0 && len(c.rels) > 4 {
			continue
		}
		order, want := expectedOrder(c), 0
		for _, list := range permutations(c.ids) {
			if expectedValid(c, order, list) {
				want++
			}
		}
		if got := impl.DigCount(c.ids, c.rels); got != want {
			t.Fatalf("DigCount(%v, %v) returned %d, not %d", c.ids, c.rels, got, want)
		}
		if len(c.ids) == 6 {
			most++
		}
	}
	if most < 30 {
		t.Errorf("only %d cases have 6 contexts", most)
	}
}

// Promise 41: there is at least one order, and at most as many as without relations.
func TestDigCountRange(t *testing.T) {
	for _, c := range shortCases() {
		got, all := impl.DigCount(c.ids, c.rels), impl.DigCount(c.ids, nil)
		if got < 1 || got > all || all != factorial(len(c.ids)) {
			t.Fatalf("DigCount(%v, %v) returned %d, and %d without relations", c.ids, c.rels, got, all)
		}
	}
}

// Promise 42: with two contexts in either order there are together as many orders.
func TestDigCountIsSum(t *testing.T) {
	checked := 0
	for _, c := range shortCases() {
		order, heads := expectedOrder(c), expectedHeads(c)
		alone := func(i int) bool {
			return !slices.ContainsFunc(equalities(c.rels), func(r impl.Rel) bool { return r.A == c.ids[i] || r.B == c.ids[i] })
		}
		for i, a := range c.ids {
			for j, b := range c.ids {
				if i == j || order[i][j] || order[j][i] || !alone(i) || !alone(j) || heads[i] == heads[j] {
					continue
				}
				one, ok := impl.RelsAdd(c.rels, above(a, b))
				other, ok2 := impl.RelsAdd(c.rels, above(b, a))
				sum := impl.DigCount(c.ids, one) + impl.DigCount(c.ids, other)
				if got := impl.DigCount(c.ids, c.rels); ok && ok2 && got != sum {
					t.Fatalf("DigCount(%v, %v) returned %d, but %d with %d and %d in either order", c.ids, c.rels, got, sum, a, b)
				}
				checked++
			}
		}
	}
	if checked < 1000 {
		t.Errorf("only %d pairs of contexts were in no order", checked)
	}
}

// At most 6 contexts are counted, whatever their numbers and relations are.
func TestDigCountAtLimit(t *testing.T) {
	for n := range impl.ContextMax + 1 {
		for _, ids := range [][]int{numbersOf(n, 1, 1), numbersOf(n, 3, 8), numbersOf(n, impl.IdMax-n+1, 1)} {
			want, one := -1, -1
			if n <= 6 {
				want, one = factorial(n), 1
			}
			if got := impl.DigCount(ids, nil); got != want {
				t.Errorf("DigCount(%v, nil) returned %d, not %d", ids, got, want)
			}
			if got := impl.DigCount(ids, chain(ids)); got != want {
				t.Errorf("DigCount(%v, %v) returned %d, not %d", ids, chain(ids), got, want)
			}
			if got := impl.DigCount(ids, pathOf(ids)); got != one {
				t.Errorf("DigCount(%v, %v) returned %d, not %d", ids, pathOf(ids), got, one)
			}
		}
	}
}

// ContextMax contexts are dug in a row, in either direction, and without relations.
func TestDigAtLimit(t *testing.T) {
	for _, ids := range [][]int{numbersOf(impl.ContextMax, 1, 1), numbersOf(impl.ContextMax, 88, 1)} {
		back := slices.Clone(ids)
		slices.Reverse(back)
		for _, list := range [][]int{ids, back} {
			if got, ok := impl.DigOrder(ids, pathOf(list)); !ok || !slices.Equal(got, list) {
				t.Errorf("DigOrder(%v, %v) returned %v, %v", ids, pathOf(list), got, ok)
			}
			if !impl.DigValid(ids, pathOf(list), list) || !impl.DigValid(ids, nil, list) {
				t.Errorf("DigValid is false for %v", list)
			}
		}
		if impl.DigValid(ids, pathOf(ids), back) || impl.DigValid(ids, pathOf(back), ids) {
			t.Errorf("DigValid is true for the other direction of %v", ids)
		}
		if got, ok := impl.DigOrder(ids, nil); !ok || !slices.Equal(got, ids) {
			t.Errorf("DigOrder(%v, nil) returned %v, %v", ids, got, ok)
		}
	}
}

// invalidDigCases returns invalid arguments, and those with a circle.
func invalidDigCases() []groupCase {
	cases := circleCases(12)
	cases = slices.DeleteFunc(cases, func(c groupCase) bool { return impl.OrderValid(c.ids, c.rels) })
	for _, c := range invalidOrderCases() {
		cases = append(cases, c)
	}
	return append(cases,
		groupCase{[]int{1, 2}, []impl.Rel{above(1, 2), above(2, 1)}},
		groupCase{[]int{1, 2}, []impl.Rel{above(1, 2), same(1, 2)}},
		groupCase{[]int{1, 2, 3, 4, 5, 6}, []impl.Rel{above(4, 5), above(5, 6), above(6, 4)}},
		groupCase{[]int{1, 2, 3, 4, 5, 6, 7}, []impl.Rel{above(6, 7), above(7, 6)}},
	)
}

// Nothing can be dug with a circle, or if the arguments are invalid.
func TestDigOfInvalidArguments(t *testing.T) {
	for _, c := range invalidDigCases() {
		if got, ok := impl.DigOrder(c.ids, c.rels); ok || len(got) != 0 {
			t.Errorf("DigOrder(%v, %v) returned %v, %v", c.ids, c.rels, got, ok)
		}
		if got := impl.DigCount(c.ids, c.rels); got != -1 {
			t.Errorf("DigCount(%v, %v) returned %d", c.ids, c.rels, got)
		}
		back := slices.Clone(c.ids)
		slices.Reverse(back)
		for _, list := range [][]int{c.ids, back, nil, {1}, {1, 2}, {2, 1}} {
			if impl.DigValid(c.ids, c.rels, list) {
				t.Errorf("DigValid(%v, %v, %v) is true", c.ids, c.rels, list)
			}
		}
	}
	if impl.DigValid([]int{2, 1}, nil, []int{1, 2}) || impl.DigValid([]int{0, 1}, nil, []int{0, 1}) {
		t.Error("DigValid holds for invalid numbers")
	}
}

// Nothing is above or below a set if the arguments are invalid.
func TestAboveAllAndBelowAllOfInvalidArguments(t *testing.T) {
	for name, c := range invalidOrderCases() {
		for _, set := range [][]int{nil, {1}, {2}, {1, 2}, {1, 2, 3, 4, 5}, c.ids, numbersOf(impl.ContextMax, 1, 1)} {
			if got := impl.AboveAll(c.ids, c.rels, set); len(got) != 0 {
				t.Errorf("%s: AboveAll(%v, %v, %v) returned %v", name, c.ids, c.rels, set, got)
			}
			if got := impl.BelowAll(c.ids, c.rels, set); len(got) != 0 {
				t.Errorf("%s: BelowAll(%v, %v, %v) returned %v", name, c.ids, c.rels, set, got)
			}
		}
	}
}

// AboveAll, BelowAll, DigOrder, DigValid and DigCount change no argument, and their results share no memory.
func TestDiggingSharesNoMemory(t *testing.T) {
	calls := map[string]func(c groupCase, list []int) []int{
		"AboveAll": func(c groupCase, list []int) []int { return impl.AboveAll(c.ids, c.rels, list) },
		"BelowAll": func(c groupCase, list []int) []int { return impl.BelowAll(c.ids, c.rels, list) },
		"DigOrder": func(c groupCase, list []int) []int { order, _ := impl.DigOrder(c.ids, c.rels); return order },
		"DigValid": func(c groupCase, list []int) []int { impl.DigValid(c.ids, c.rels, list); return nil },
		"DigCount": func(c groupCase, list []int) []int { impl.DigCount(c.ids, c.rels); return nil },
	}
	for name, call := range calls {
		for _, c := range append(allOrderCases(), digCases(100)...) {
			for _, list := range [][]int{c.ids, slices.Clone(numbersOf(impl.ContextMax, 99, -1)), {1, 2, 8, 9}} {
				room, more := groupCase{withRoom(c.ids, impl.ContextMax), withRoom(c.rels, impl.RelMax)}, withRoom(list, impl.ContextMax)
				first, second := call(room, more), call(room, more)
				want := slices.Clone(second)
				overwrite(first, -7)
				if !slices.Equal(second, want) {
					t.Fatalf("%s(%v, %v, %v): two results share memory", name, c.ids, c.rels, list)
				}
				if !untouched(room, c) || !slices.Equal(more, list) || !isZero(behind(more)) {
					t.Fatalf("%s(%v, %v, %v) shares memory with an argument", name, c.ids, c.rels, list)
				}
			}
		}
	}
}
