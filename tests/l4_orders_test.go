package tests

import (
	"fmt"
	"math"
	"math/rand"
	"slices"
	"strings"
	"testing"

	"loop.example/excavation/impl"
)

// aboves returns those of the relations that are of the kind RelAbove.
func aboves(rels []impl.Rel) []impl.Rel {
	return slices.DeleteFunc(slices.Clone(rels), func(r impl.Rel) bool { return r.Kind != impl.RelAbove })
}

// circleOf returns the relations of a circle: each element lies above the next one, and the last one above the first one.
func circleOf(list []int) []impl.Rel {
	var rels []impl.Rel
	for i, a := range list {
		rels = append(rels, above(a, list[(i+1)%len(list)]))
	}
	return inOrder(rels)
}

// pathOf returns the relations by which each element lies above the next one.
func pathOf(list []int) []impl.Rel {
	var rels []impl.Rel
	for i := 1; i < len(list); i++ {
		rels = append(rels, above(list[i-1], list[i]))
	}
	return inOrder(rels)
}

// shuffled returns a list in an order by chance.
func shuffled(random *rand.Rand, list []int) []int {
	other := slices.Clone(list)
	random.Shuffle(len(other), func(i, j int) { other[i], other[j] = other[j], other[i] })
	return other
}

// firstRels returns the relations that come first by chance, so that there are at most RelMax, each once.
func firstRels(random *rand.Rand, rels []impl.Rel) []impl.Rel {
	all := inOrder(rels)
	random.Shuffle(len(all), func(i, j int) { all[i], all[j] = all[j], all[i] })
	return inOrder(all[:min(len(all), impl.RelMax)])
}

// sparseCases returns cases with few or many relations RelAbove that all lead onward in an order by chance, with some
// equalities of neighbours in this order, and with at most one relation that leads back; they are the same in each run.
func sparseCases(n int) []groupCase {
	random := rand.New(rand.NewSource(4))
	var cases []groupCase
	for k := range n {
		ids := numbersOf(2+random.Intn(impl.ContextMax-1), 1+random.Intn(5), 1+random.Intn(8))
		order := shuffled(random, ids)
		var rels []impl.Rel
		for range random.Intn(impl.RelMax) {
			i, j := random.Intn(len(ids)), random.Intn(len(ids))
			if i < j {
				rels = append(rels, above(order[i], order[j]))
			}
		}
		if k%2 == 0 {
			i := random.Intn(len(ids) - 1)
			rels = append(rels, chain(order[i:i+2])...)
		}
		if k%3 == 0 {
			rels = append(rels, above(order[len(order)-1], order[0]))
		}
		cases = append(cases, groupCase{ids, firstRels(random, rels)})
	}
	return cases
}

// circleCases returns cases with circles of each length, alone, beside others and with ways out of them; they are the same
// in each run.
func circleCases(n int) []groupCase {
	random := rand.New(rand.NewSource(44))
	ids := numbersOf(impl.ContextMax, 4, 7)
	var cases []groupCase
	for k := range n {
		order := shuffled(random, ids)
		cut := 2 + k%(impl.ContextMax-1)
		one := circleOf(order[:cut])
		cases = append(cases,
			groupCase{ids, one},
			groupCase{ids, pathOf(order)},
			groupCase{ids, inOrder(append(one, pathOf(order)...))},
			groupCase{ids, firstRels(random, append(circleOf(order), pathOf(shuffled(random, order))...))},
			groupCase{ids, firstRels(random, append(one, chain(shuffled(random, ids)[:2+k%3])...))},
			groupCase{ids, firstRels(random, append(pathOf(order), chain([]int{order[0], order[cut-1]})...))},
		)
		if len(order)-cut > 1 {
			two := append(circleOf(order[cut:]), one...)
			cases = append(cases, groupCase{ids, inOrder(two)}, groupCase{ids, inOrder(append(two, above(order[0], order[cut])))})
		}
	}
	return cases
}

// orderCases returns valid arguments: those of the chapter before, all that four contexts can have without equalities,
// and longer ones.
func orderCases() []groupCase {
	cases := groupCases()
	four := []int{9, 10, 11, 99}
	for _, rels := range subsets(aboves(relsWithin(four))) {
		cases = append(cases, groupCase{four, rels})
	}
	return append(append(cases, sparseCases(400)...), circleCases(80)...)
}

// expectedDirect returns, by the heads of two groups, whether the first one lies directly above the second one.
func expectedDirect(c groupCase) map[[2]int]bool {
	heads := expectedHeads(c)
	direct := map[[2]int]bool{}
	for _, r := range aboves(c.rels) {
		direct[[2]int{headOf(c, heads, r.A), headOf(c, heads, r.B)}] = true
	}
	return direct
}

// reach returns all heads to which ways of at least one step lead from a head.
func reach(c groupCase, direct map[[2]int]bool, from int) map[int]bool {
	reached := map[int]bool{}
	next := []int{from}
	for len(next) > 0 {
		at := next[0]
		next = next[1:]
		for _, id := range c.ids {
			if direct[[2]int{at, id}] && !reached[id] {
				reached[id] = true
				next = append(next, id)
			}
		}
	}
	return reached
}

// expectedOrder returns the order, found in another way: by a search from each context.
func expectedOrder(c groupCase) [][]bool {
	heads, direct := expectedHeads(c), expectedDirect(c)
	order := make([][]bool, len(c.ids))
	for i := range c.ids {
		reached := reach(c, direct, heads[i])
		for j := range c.ids {
			order[i] = append(order[i], reached[heads[j]])
		}
	}
	return order
}

// completed returns the first circle of a number of contexts that begins with a path, by trying all contexts behind it.
func completed(c groupCase, direct map[[2]int]bool, path []int, n int) []int {
	last := path[len(path)-1]
	if len(path) == n {
		if direct[[2]int{last, path[0]}] {
			return path
		}
		return nil
	}
	for _, id := range c.ids {
		if !direct[[2]int{last, id}] || slices.Contains(path, id) {
			continue
		}
		if circle := completed(c, direct, append(slices.Clone(path), id), n); circle != nil {
			return circle
		}
	}
	return nil
}

// expectedCircle returns the circle, found in another way: all lists are tried, the short ones first, each in order.
func expectedCircle(c groupCase) []int {
	direct := expectedDirect(c)
	for n := 1; n <= len(c.ids); n++ {
		for _, id := range c.ids {
			if circle := completed(c, direct, []int{id}, n); circle != nil {
				return circle
			}
		}
	}
	return nil
}

// orderOf returns what OrderOf returns for valid arguments, for which it must have a row and a column for each context.
func orderOf(t *testing.T, c groupCase) [][]bool {
	t.Helper()
	order := impl.OrderOf(c.ids, c.rels)
	if len(order) != len(c.ids) {
		t.Fatalf("OrderOf(%v, %v) returned %v", c.ids, c.rels, order)
	}
	for _, row := range order {
		if len(row) != len(c.ids) {
			t.Fatalf("OrderOf(%v, %v) returned %v", c.ids, c.rels, order)
		}
	}
	return order
}

// orderExample has arguments as a text, the pairs of contexts of which the first one lies above the second one, and the circle.
type orderExample struct {
	ids    []int
	text   string
	pairs  string
	circle []int
}

// orderExamples returns the cases that the document names, written out.
func orderExamples() map[string]orderExample {
	three, six := []int{1, 2, 3}, []int{1, 2, 3, 4, 5, 6}
	return map[string]orderExample{
		"no contexts":                     {nil, "", "", nil},
		"one context":                     {[]int{7}, "", "", nil},
		"no relations":                    {three, "", "", nil},
		"equalities alone":                {three, "1=2 2=3", "", nil},
		"one relation":                    {three, "2>1", "2>1", nil},
		"through another":                 {three, "1>2 2>3", "1>2 1>3 2>3", nil},
		"through another, upward":         {three, "2>1 3>2", "2>1 3>1 3>2", nil},
		"through an equality":             {six, "1>2 2=5 5>6", "1>2 1>5 1>6 2>6 5>6", nil},
		"for all of a group":              {six, "1=4 2=5 4>2", "1>2 1>5 4>2 4>5", nil},
		"two ways":                        {[]int{1, 2, 3, 4}, "1>2 1>3 2>4 3>4", "1>2 1>3 1>4 2>4 3>4", nil},
		"no relation leads between":       {[]int{1, 2, 3, 4}, "1>3 2>4", "1>3 2>4", nil},
		"same above, no relation between": {three, "1>2 1>3", "1>2 1>3", nil},
		"same below, no relation between": {three, "1>3 2>3", "1>3 2>3", nil},
		"directly above itself":           {three, "1>2 1=2", "1>1 1>2 2>1 2>2", []int{1}},
		"directly above itself, upward":   {three, "2=3 3>2", "2>2 2>3 3>2 3>3", []int{2}},
		"directly above itself, through others": {
			[]int{1, 2, 3, 9}, "2=3 2>9 3=9", "2>2 2>3 2>9 3>2 3>3 3>9 9>2 9>3 9>9", []int{2},
		},
		"two of a group above each other": {
			three, "1=3 1>3 3>1", "1>1 1>3 3>1 3>3", []int{1},
		},
		"above itself through another": {three, "2>3 3>2", "2>2 2>3 3>2 3>3", []int{2, 3}},
		"a circle and what is beside it": {
			[]int{1, 2, 3, 4}, "1>2 2>3 3>2 3>4", "1>2 1>3 1>4 2>2 2>3 2>4 3>2 3>3 3>4", []int{2, 3},
		},
		"closed by an equality": {three, "1>2 1=3 2>3", "1>1 1>2 1>3 2>1 2>2 2>3 3>1 3>2 3>3", []int{1, 2}},
		"closed by two equalities": {
			[]int{2, 3, 5, 7}, "2>7 2=5 3>5 3=7",
			"2>2 2>3 2>5 2>7 3>2 3>3 3>5 3>7 5>2 5>3 5>5 5>7 7>2 7>3 7>5 7>7", []int{2, 3},
		},
		"not closed without the equality": {three, "1>2 2>3", "1>2 1>3 2>3", nil},
	}
}

// circleExamples returns arguments with several circles, and the one that is returned.
func circleExamples() map[string]orderExample {
	six := []int{1, 2, 3, 4, 5, 6}
	return map[string]orderExample{
		"two of one context":           {six, "2>3 2=3 4>5 4=5", "", []int{2}},
		"two of two contexts":          {six, "3>6 4>5 5>4 6>3", "", []int{3, 6}},
		"two of two, from one":         {six, "2>3 2>5 3>2 5>2", "", []int{2, 3}},
		"two of two, to one":           {six, "1>6 4>6 6>1 6>4", "", []int{1, 6}},
		"two of three, same beginning": {six, "1>3 1>5 3>4 4>1 5>2 2>1", "", []int{1, 3, 4}},
		"two of three, same two":       {six, "1>2 2>4 2>6 4>1 6>1", "", []int{1, 2, 4}},
		"two of three, both ways":      {six, "1>2 1>3 2>5 3>4 4>1 5>1", "", []int{1, 2, 5}},
		"the least is not the nearest": {six, "1>6 2>5 3>2 4>1 5>3 6>4", "", []int{1, 6, 4}},
		"less by an equality":          {six, "1=6 2>3 3>2 4>6 6>4", "", []int{1, 4}},
		"the first by an equality":     {six, "2=6 1>4 1>6 2>1 4>1", "", []int{1, 2}},
		"longer one, one context":      {six, "1>2 2>1 5>6 5=6", "", []int{5}},
		"longer one before":            {six, "1>2 2>3 3>1 5>6 6>5", "", []int{5, 6}},
		"longer one behind":            {six, "1>2 2>1 4>5 5>6 6>4", "", []int{1, 2}},
		"longer one with less":         {six, "1>2 1>6 2>3 3>4 4>1 6>4", "", []int{1, 6, 4}},
		"shorter one inside":           {six, "1>2 2>3 3>4 3>2 4>1", "", []int{2, 3}},
		"all six":                      {six, "1>3 2>6 3>5 4>1 5>2 6>4", "", []int{1, 3, 5, 2, 6, 4}},
		"begins in the midst":          {six, "3>6 4>3 5>4 6>5", "", []int{3, 6, 5, 4}},
	}
}

// parsed returns the relations of a text in the order of the document, in whatever order the text has them.
func parsed(t *testing.T, text string) []impl.Rel {
	t.Helper()
	var rels []impl.Rel
	for _, part := range strings.Fields(text) {
		var a, b int
		var sign rune
		if _, err := fmt.Sscanf(part, "%d%c%d", &a, &sign, &b); err != nil {
			t.Fatalf("%q is no relation", part)
		}
		if sign == '=' {
			rels = append(rels, same(a, b))
		} else {
			rels = append(rels, above(a, b))
		}
	}
	return inOrder(rels)
}

func TestOrderExamples(t *testing.T) {
	for name, e := range orderExamples() {
		rels, pairs := parsed(t, e.text), parsed(t, e.pairs)
		order := orderOf(t, groupCase{e.ids, rels})
		for i, a := range e.ids {
			for j, b := range e.ids {
				want := slices.Contains(pairs, above(a, b))
				if order[i][j] != want || impl.OrderAbove(e.ids, rels, a, b) != want {
					t.Errorf("%s: %d above %d is not %v", name, a, b, want)
				}
			}
		}
		if got := impl.OrderValid(e.ids, rels); got != (e.circle == nil) {
			t.Errorf("%s: OrderValid is %v", name, got)
		}
		if got := impl.OrderCycle(e.ids, rels); !slices.Equal(got, e.circle) {
			t.Errorf("%s: OrderCycle returned %v, not %v", name, got, e.circle)
		}
	}
}

func TestOrderCycleExamples(t *testing.T) {
	for name, e := range circleExamples() {
		rels := parsed(t, e.text)
		if got := impl.OrderCycle(e.ids, rels); !slices.Equal(got, e.circle) || impl.OrderValid(e.ids, rels) {
			t.Errorf("%s: OrderCycle returned %v, not %v", name, got, e.circle)
		}
	}
}

func TestOrderOf(t *testing.T) {
	for _, c := range orderCases() {
		if got, want := orderOf(t, c), expectedOrder(c); !sameRows(got, want) {
			t.Fatalf("OrderOf(%v, %v) returned %v, not %v", c.ids, c.rels, got, want)
		}
	}
}

// Promise 24: the first context of a relation lies above the second one.
func TestOrderOfHoldsForRelations(t *testing.T) {
	for _, c := range orderCases() {
		order := orderOf(t, c)
		for _, r := range aboves(c.rels) {
			if !order[slices.Index(c.ids, r.A)][slices.Index(c.ids, r.B)] {
				t.Fatalf("OrderOf(%v, %v) does not hold for %v", c.ids, c.rels, r)
			}
		}
	}
}

// Promise 25: what lies below one that lies below a context lies below it, too.
func TestOrderOfIsTransitive(t *testing.T) {
	for _, c := range orderCases() {
		order := orderOf(t, c)
		for i := range order {
			for j := range order {
				for k := range order {
					if order[i][j] && order[j][k] && !order[i][k] {
						t.Fatalf("OrderOf(%v, %v) is not transitive: %v", c.ids, c.rels, order)
					}
				}
			}
		}
	}
}

// Promise 25: all contexts of a group lie above the same ones, and below the same ones.
func TestOrderOfIsThatOfGroups(t *testing.T) {
	for _, c := range orderCases() {
		order, heads := orderOf(t, c), expectedHeads(c)
		for i := range order {
			for j := range order {
				if heads[i] != heads[j] {
					continue
				}
				for k := range order {
					if order[i][k] != order[j][k] || order[k][i] != order[k][j] {
						t.Fatalf("OrderOf(%v, %v) divides a group: %v", c.ids, c.rels, order)
					}
				}
			}
		}
	}
}

// Promise 26: a relation from a group is the reason if a context of it lies above another one.
func TestOrderOfHasReasons(t *testing.T) {
	for _, c := range orderCases() {
		order, heads := orderOf(t, c), expectedHeads(c)
		for i := range order {
			for j := range order {
				reason := slices.ContainsFunc(aboves(c.rels), func(r impl.Rel) bool {
					a, b := slices.Index(c.ids, r.A), slices.Index(c.ids, r.B)
					return heads[a] == heads[i] && (heads[b] == heads[j] || order[b][j])
				})
				if order[i][j] != reason {
					t.Fatalf("OrderOf(%v, %v) has %v above %v", c.ids, c.rels, c.ids[i], c.ids[j])
				}
			}
		}
	}
}

// Promise 27: OrderAbove holds exactly if OrderOf holds at the places of both contexts.
func TestOrderAbove(t *testing.T) {
	for _, c := range orderCases() {
		order := orderOf(t, c)
		for i, a := range c.ids {
			for j, b := range c.ids {
				if got := impl.OrderAbove(c.ids, c.rels, a, b); got != order[i][j] {
					t.Fatalf("OrderAbove(%v, %v, %d, %d) returned %v", c.ids, c.rels, a, b, got)
				}
			}
		}
	}
}

// A number that is not among the contexts lies above none and below none.
func TestOrderAboveOfMissingContext(t *testing.T) {
	for _, c := range groupCases() {
		for _, id := range []int{0, -1, 1, 2, 4, 9, 12, 13, 50, 98, 99, 100, math.MinInt, math.MaxInt} {
			if slices.Contains(c.ids, id) {
				continue
			}
			for _, other := range append([]int{id, 0, 100}, c.ids...) {
				if impl.OrderAbove(c.ids, c.rels, id, other) || impl.OrderAbove(c.ids, c.rels, other, id) {
					t.Fatalf("OrderAbove(%v, %v) holds for %d and %d", c.ids, c.rels, id, other)
				}
			}
		}
	}
}

// In a circle each context lies above each one, but none above or below one that is not there.
func TestOrderAboveOfMissingContextBesideCircle(t *testing.T) {
	ids := numbersOf(impl.ContextMax, 2, 8)
	rels := circleOf(ids)
	for id := range impl.IdMax + 2 {
		for _, other := range ids {
			want := slices.Contains(ids, id)
			if impl.OrderAbove(ids, rels, id, other) != want || impl.OrderAbove(ids, rels, other, id) != want {
				t.Errorf("OrderAbove(%v, %v) of %d and %d is not %v", ids, rels, id, other, want)
			}
		}
	}
}

// Promise 28: the order is valid exactly if no context lies above itself; then no two lie above each other.
func TestOrderValid(t *testing.T) {
	valid := 0
	for _, c := range orderCases() {
		order, itself, mutual := orderOf(t, c), false, false
		for i := range order {
			itself = itself || order[i][i]
			for j := range order {
				mutual = mutual || order[i][j] && order[j][i]
			}
		}
		got := impl.OrderValid(c.ids, c.rels)
		if got == itself || got && mutual {
			t.Fatalf("OrderValid(%v, %v) returned %v: %v", c.ids, c.rels, got, order)
		}
		if got {
			valid++
		}
	}
	if valid < 500 || valid > len(orderCases())-500 {
		t.Errorf("%d cases have a valid order, which are too many or too few of them", valid)
	}
}

// Promise 29: a valid order stays valid without any one relation RelAbove.
func TestOrderValidWithoutOneRelation(t *testing.T) {
	for _, c := range orderCases() {
		if !impl.OrderValid(c.ids, c.rels) {
			continue
		}
		for k, r := range c.rels {
			if r.Kind == impl.RelAbove && !impl.OrderValid(c.ids, without(c.rels, k)) {
				t.Fatalf("OrderValid(%v, %v) is false without %v", c.ids, c.rels, r)
			}
		}
	}
}

func TestOrderCycle(t *testing.T) {
	lengths := map[int]int{}
	for _, c := range orderCases() {
		got, want := impl.OrderCycle(c.ids, c.rels), expectedCircle(c)
		if !slices.Equal(got, want) {
			t.Fatalf("OrderCycle(%v, %v) returned %v, not %v", c.ids, c.rels, got, want)
		}
		lengths[len(got)]++
	}
	for n := range impl.ContextMax + 1 {
		if lengths[n] == 0 {
			t.Errorf("no case has a shortest circle of %d contexts", n)
		}
	}
}

// Promise 30: each group lies directly above the next one; all contexts are heads, and different.
func TestOrderCycleLeadsAround(t *testing.T) {
	for _, c := range orderCases() {
		circle, heads := impl.OrderCycle(c.ids, c.rels), expectedHeads(c)
		for i, id := range circle {
			next := circle[(i+1)%len(circle)]
			leads := slices.ContainsFunc(aboves(c.rels), func(r impl.Rel) bool {
				return headOf(c, heads, r.A) == id && headOf(c, heads, r.B) == next
			})
			if !leads || slices.Contains(circle[:i], id) {
				t.Fatalf("OrderCycle(%v, %v) returned %v", c.ids, c.rels, circle)
			}
		}
	}
}

// Promise 31: there is a circle exactly if the order is not valid.
func TestOrderCycleOrValid(t *testing.T) {
	for _, c := range orderCases() {
		if circle := impl.OrderCycle(c.ids, c.rels); impl.OrderValid(c.ids, c.rels) != (len(circle) == 0) {
			t.Fatalf("OrderCycle(%v, %v) returned %v", c.ids, c.rels, circle)
		}
	}
}

// Promise 32: the circle begins with its least context.
func TestOrderCycleBeginsWithLeast(t *testing.T) {
	for _, c := range orderCases() {
		if circle := impl.OrderCycle(c.ids, c.rels); len(circle) > 0 && circle[0] != slices.Min(circle) {
			t.Fatalf("OrderCycle(%v, %v) returned %v", c.ids, c.rels, circle)
		}
	}
}

// Promise 33: beside a longer circle no two contexts lie directly above each other.
func TestOrderCycleIsShort(t *testing.T) {
	for _, c := range orderCases() {
		circle := impl.OrderCycle(c.ids, c.rels)
		for _, r := range aboves(c.rels) {
			if len(circle) > 2 && slices.Contains(c.rels, above(r.B, r.A)) {
				t.Fatalf("OrderCycle(%v, %v) returned %v", c.ids, c.rels, circle)
			}
		}
	}
}

// A circle in whatever order its contexts come is found, and returned from its least context on.
func TestOrderCycleOfAllOrders(t *testing.T) {
	ids := []int{4, 9, 10, 50, 98, 99}
	for _, order := range permutations(ids) {
		i := slices.Index(order, 4)
		want := slices.Concat(order[i:], order[:i])
		if got := impl.OrderCycle(ids, circleOf(order)); !slices.Equal(got, want) {
			t.Errorf("OrderCycle(%v, %v) returned %v, not %v", ids, circleOf(order), got, want)
		}
	}
}

// ContextMax contexts above each other, in a row and in a circle, with the least and the greatest numbers.
func TestOrderAtLimit(t *testing.T) {
	for _, ids := range [][]int{numbersOf(impl.ContextMax, 1, 1), numbersOf(impl.ContextMax, 88, 1)} {
		path := groupCase{ids, pathOf(ids)}
		for i, row := range orderOf(t, path) {
			for j, got := range row {
				if got != (i < j) {
					t.Errorf("OrderOf(%v, %v) at %d and %d is %v", path.ids, path.rels, i, j, got)
				}
			}
		}
		if !impl.OrderValid(path.ids, path.rels) || len(impl.OrderCycle(path.ids, path.rels)) != 0 {
			t.Errorf("the order of %v and %v is not valid", path.ids, path.rels)
		}
		if got := impl.OrderCycle(ids, circleOf(ids)); !slices.Equal(got, ids) || impl.OrderValid(ids, circleOf(ids)) {
			t.Errorf("OrderCycle(%v, %v) returned %v", ids, circleOf(ids), got)
		}
		none := groupCase{ids, nil}
		if order := orderOf(t, none); !sameRows(order, expectedOrder(none)) || !impl.OrderValid(ids, nil) {
			t.Errorf("OrderOf(%v, nil) returned %v", ids, order)
		}
	}
	ids := numbersOf(impl.ContextMax, 1, 1)
	full := groupCase{ids, relsWithin(ids)[:impl.RelMax]}
	if order := orderOf(t, full); !sameRows(order, expectedOrder(full)) {
		t.Errorf("OrderOf(%v, %v) returned %v", full.ids, full.rels, order)
	}
}

// invalidOrderCases returns invalid arguments; some of them have a circle but for what is invalid.
func invalidOrderCases() map[string]groupCase {
	cases := invalidGroupCases()
	circle := []impl.Rel{above(1, 2), above(2, 1)}
	for name, ids := range invalidIds() {
		cases["numbers, "+name+", with a circle"] = groupCase{ids, circle}
	}
	cases["a circle not in order"] = groupCase{[]int{1, 2}, []impl.Rel{above(2, 1), above(1, 2)}}
	cases["a context above itself"] = groupCase{[]int{1, 2}, []impl.Rel{above(1, 1)}}
	cases["a circle through a missing context"] = groupCase{[]int{1, 2}, []impl.Rel{above(1, 3), above(3, 1)}}
	cases["a circle beside a missing context"] = groupCase{[]int{1, 2}, append(circle, same(3, 4))}
	cases["a circle beside a wrong kind"] = groupCase{[]int{1, 2}, append(circle, impl.Rel{A: 2, B: 1, Kind: 3})}
	return cases
}

// Nothing is returned for invalid arguments.
func TestOrdersOfInvalidArguments(t *testing.T) {
	for name, c := range invalidOrderCases() {
		if got := impl.OrderOf(c.ids, c.rels); len(got) != 0 {
			t.Errorf("%s: OrderOf(%v, %v) returned %v", name, c.ids, c.rels, got)
		}
		if impl.OrderValid(c.ids, c.rels) {
			t.Errorf("%s: OrderValid(%v, %v) is true", name, c.ids, c.rels)
		}
		if got := impl.OrderCycle(c.ids, c.rels); len(got) != 0 {
			t.Errorf("%s: OrderCycle(%v, %v) returned %v", name, c.ids, c.rels, got)
		}
		some := append([]int{0, 1, 2, 3, 99, 100, math.MaxInt}, c.ids[:min(len(c.ids), 13)]...)
		for _, a := range some {
			for _, b := range some {
				if impl.OrderAbove(c.ids, c.rels, a, b) {
					t.Errorf("%s: OrderAbove(%v, %v, %d, %d) is true", name, c.ids, c.rels, a, b)
				}
			}
		}
	}
}

// allOrderCases returns valid and invalid arguments.
func allOrderCases() []groupCase {
	cases := append(groupCases(), circleCases(20)...)
	for _, c := range invalidOrderCases() {
		cases = append(cases, c)
	}
	return cases
}

// untouched reports whether arguments in memory with further room are as before, and nothing was written behind them.
func untouched(room, c groupCase) bool {
	return slices.Equal(room.ids, c.ids) && slices.Equal(room.rels, c.rels) && isZero(behind(room.ids)) && isZero(behind(room.rels))
}

// The rows of OrderOf share no memory with each other, also not behind their ends, nor with those of another call.
func TestOrderOfSharesNoMemory(t *testing.T) {
	for _, c := range allOrderCases() {
		room := groupCase{withRoom(c.ids, impl.ContextMax), withRoom(c.rels, impl.RelMax)}
		first, second := impl.OrderOf(room.ids, room.rels), impl.OrderOf(room.ids, room.rels)
		checkSeparateRows(t, first, second, true, false)
		if !untouched(room, c) {
			t.Fatalf("OrderOf(%v, %v) shares memory with an argument", c.ids, c.rels)
		}
	}
}

// OrderAbove, OrderValid and OrderCycle change no argument, and circles share no memory.
func TestOrdersShareNoMemory(t *testing.T) {
	calls := map[string]func(groupCase) []int{
		"OrderAbove": func(c groupCase) []int {
			if len(c.ids) > 0 {
				impl.OrderAbove(c.ids, c.rels, c.ids[0], c.ids[len(c.ids)-1])
			}
			impl.OrderAbove(c.ids, c.rels, 1, 100)
			return nil
		},
		"OrderValid": func(c groupCase) []int { impl.OrderValid(c.ids, c.rels); return nil },
		"OrderCycle": func(c groupCase) []int { return impl.OrderCycle(c.ids, c.rels) },
	}
	for name, call := range calls {
		for _, c := range allOrderCases() {
			room := groupCase{withRoom(c.ids, impl.ContextMax), withRoom(c.rels, impl.RelMax)}
			first, second := call(room), call(room)
			want := slices.Clone(second)
			overwrite(first, -7)
			if !slices.Equal(second, want) {
				t.Fatalf("%s(%v, %v): two results share memory", name, c.ids, c.rels)
			}
			if !untouched(room, c) {
				t.Fatalf("%s(%v, %v) shares memory with an argument", name, c.ids, c.rels)
			}
		}
	}
}
