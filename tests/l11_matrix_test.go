package tests

import (
	"math"
	"math/rand"
	"slices"
	"testing"

	"loop.example/excavation/impl"
)

// pairsOf returns the relations by which each one of some contexts lies above each one of others.
func pairsOf(uppers, lowers []int) []impl.Rel {
	var rels []impl.Rel
	for _, a := range uppers {
		for _, b := range lowers {
			rels = append(rels, above(a, b))
		}
	}
	return inOrder(rels)
}

// allBehind returns the relations by which each element of a list lies above each one behind it.
func allBehind(list []int) []impl.Rel {
	var rels []impl.Rel
	for i, a := range list {
		rels = append(rels, pairsOf([]int{a}, list[i+1:])...)
	}
	return inOrder(rels)
}

// fullCases returns cases with RelMax relations and a valid order: of some of them all relations are in the matrix, of
// others most of the relations follow from the others.
func fullCases() []groupCase {
	random := rand.New(rand.NewSource(11))
	var cases []groupCase
	for k := range 40 {
		ids := numbersOf(impl.ContextMax, 1+k%12, 1+k%8)
		order := shuffled(random, ids)
		cases = append(cases,
			groupCase{ids, pairsOf(order[:5], order[5:11])},
			groupCase{ids, pairsOf(order[3:9], order[7:12])[:impl.RelMax-1]},
			groupCase{ids, inOrder(append(allBehind(order[:8]), above(order[8], order[9]), above(order[10], order[0])))},
			groupCase{ids, inOrder(append(allBehind(order[:8]), chain(order[9:12])...))},
			groupCase{ids, firstRels(random, append(allBehind(order), pathOf(order)...))},
		)
	}
	return slices.DeleteFunc(cases, func(c groupCase) bool { return !impl.OrderValid(c.ids, c.rels) })
}

// matrixCases returns all cases with a valid order.
func matrixCases() []groupCase {
	return append(validCases(), fullCases()...)
}

// headRels returns the relations RelAbove of heads that are told of some contexts of their groups.
func headRels(c groupCase) []impl.Rel {
	heads := expectedHeads(c)
	var rels []impl.Rel
	for _, r := range aboves(c.rels) {
		rels = append(rels, above(headOf(c, heads, r.A), headOf(c, heads, r.B)))
	}
	return inOrder(rels)
}

// headEqualities returns the equalities of each head with each other context of its group.
func headEqualities(c groupCase) []impl.Rel {
	var rels []impl.Rel
	for i, head := range expectedHeads(c) {
		if head != c.ids[i] {
			rels = append(rels, same(head, c.ids[i]))
		}
	}
	return rels
}

// leadsAnother reports whether a way of more than one relation leads from the first context of a relation to its second one.
func leadsAnother(rels []impl.Rel, r impl.Rel) bool {
	next := []int{r.A}
	for i := 0; i < len(next); i++ {
		for _, other := range rels {
			if other.A != next[i] || other == r || slices.Contains(next, other.B) {
				continue
			}
			if other.B == r.B {
				return true
			}
			next = append(next, other.B)
		}
	}
	return false
}

// expectedMatrix returns the matrix, found in another way: of the relations of heads, each one to which another way leads
// is left out.
func expectedMatrix(c groupCase) []impl.Rel {
	told := headRels(c)
	least := slices.DeleteFunc(slices.Clone(told), func(r impl.Rel) bool { return leadsAnother(told, r) })
	return inOrder(append(least, headEqualities(c)...))
}

// expectedLevel returns the level of a head, found in another way: by all ways upward along the relations of heads.
func expectedLevel(told []impl.Rel, head int) int {
	level := 0
	for _, r := range told {
		if r.B == head {
			level = max(level, expectedLevel(told, r.A)+1)
		}
	}
	return level
}

// expectedLevels returns the levels of all contexts.
func expectedLevels(c groupCase) []int {
	told := headRels(c)
	var levels []int
	for _, head := range expectedHeads(c) {
		levels = append(levels, expectedLevel(told, head))
	}
	return levels
}

// expectedBelow returns what MatrixBelow has for a context.
func expectedBelow(c groupCase, id int) []int {
	head := headOf(c, expectedHeads(c), id)
	var below []int
	for _, r := range aboves(expectedMatrix(c)) {
		if r.A == head {
			below = append(below, r.B)
		}
	}
	return below
}

// matrixOf returns what MatrixOf returns for a valid order, for which it must not fail.
func matrixOf(t *testing.T, c groupCase) []impl.Rel {
	t.Helper()
	list, ok := impl.MatrixOf(c.ids, c.rels)
	if !ok {
		t.Fatalf("MatrixOf(%v, %v) returned %v, %v", c.ids, c.rels, list, ok)
	}
	return list
}

// levelsOf returns what MatrixLevels returns for a valid order, for which it must not fail.
func levelsOf(t *testing.T, c groupCase) []int {
	t.Helper()
	levels, ok := impl.MatrixLevels(c.ids, c.rels)
	if !ok || len(levels) != len(c.ids) {
		t.Fatalf("MatrixLevels(%v, %v) returned %v, %v", c.ids, c.rels, levels, ok)
	}
	return levels
}

// matrixExample has arguments as a text, the text of the matrix, and the level of each context.
type matrixExample struct {
	ids    []int
	text   string
	matrix string
	levels []int
}

// matrixExamples returns valid orders that the document names, written out.
func matrixExamples() map[string]matrixExample {
	three, four, six := []int{1, 2, 3}, []int{1, 2, 3, 4}, []int{1, 2, 3, 4, 5, 6}
	return map[string]matrixExample{
		"no contexts":               {nil, "", "", nil},
		"one context":               {[]int{7}, "", "", []int{0}},
		"no relations":              {three, "", "", []int{0, 0, 0}},
		"one relation":              {three, "1>3", "1>3", []int{0, 0, 1}},
		"one relation, upward":      {three, "3>1", "3>1", []int{1, 0, 0}},
		"nothing follows":           {three, "1>2 2>3", "1>2 2>3", []int{0, 1, 2}},
		"one between":               {three, "1>2 1>3 2>3", "1>2 2>3", []int{0, 1, 2}},
		"one between, upward":       {three, "2>1 3>1 3>2", "2>1 3>2", []int{2, 1, 0}},
		"one between, the greatest": {three, "1>2 1>3 3>2", "1>3 3>2", []int{0, 2, 1}},
		"one between, the least":    {three, "1>3 2>1 2>3", "1>3 2>1", []int{1, 0, 2}},
		"two between in a row":      {four, "1>2 1>4 2>3 3>4", "1>2 2>3 3>4", []int{0, 1, 2, 3}},
		"two between, side by side": {four, "1>2 1>3 1>4 2>4 3>4", "1>2 1>3 2>4 3>4", []int{0, 1, 1, 2}},
		"four between":              {six, "1>2 1>6 2>3 3>4 4>5 5>6", "1>2 2>3 3>4 4>5 5>6", []int{0, 1, 2, 3, 4, 5}},
		"all pairs of four":         {four, "1>2 1>3 1>4 2>3 2>4 3>4", "1>2 2>3 3>4", []int{0, 1, 2, 3}},
		"all pairs of four, upward": {four, "2>1 3>1 3>2 4>1 4>2 4>3", "2>1 3>2 4>3", []int{3, 2, 1, 0}},
		"only one end between":      {four, "1>3 1>4 2>4", "1>3 1>4 2>4", []int{0, 0, 1, 1}},
		"below both, not between":   {four, "1>2 1>3 2>4 3>4", "1>2 1>3 2>4 3>4", []int{0, 1, 1, 2}},
		"two ways, one longer":      {[]int{1, 2, 3, 4, 5}, "1>2 1>3 2>5 3>4 4>5", "1>2 1>3 2>5 3>4 4>5", []int{0, 1, 1, 2, 3}},
		"two ways, longer first":    {[]int{1, 2, 3, 4, 5}, "1>2 1>4 2>3 3>5 4>5", "1>2 1>4 2>3 3>5 4>5", []int{0, 1, 2, 1, 3}},
		"deeper beside a lesser":    {six, "1>2 2>3 3>6 4>6", "1>2 2>3 3>6 4>6", []int{0, 1, 2, 0, 0, 3}},
		"equalities alone":          {three, "1=2 2=3", "1=2 1=3", []int{0, 0, 0}},
		"equalities that follow":    {three, "1=2 1=3 2=3", "1=2 1=3", []int{0, 0, 0}},
		"joined through the last":   {four, "1=4 2=4 3=4", "1=2 1=3 1=4", []int{0, 0, 0, 0}},
		"joined through a greater":  {four, "1=4 2=3 3=4", "1=2 1=3 1=4", []int{0, 0, 0, 0}},
		"two groups":                {six, "1=6 2=5 4=5", "1=6 2=4 2=5", []int{0, 0, 0, 0, 0, 0}},
		"one of a group is told":    {four, "1=4 2=3 4>3", "1>2 1=4 2=3", []int{0, 1, 1, 0}},
		"one of a group, upward":    {four, "1=4 2=3 3>4", "1=4 2>1 2=3", []int{1, 0, 0, 1}},
		"each of a group is told":   {four, "1=4 1>2 1>3 2=3 4>2 4>3", "1>2 1=4 2=3", []int{0, 1, 1, 0}},
		"one of a group of three":   {six, "1=3 3=5 5>6 2>5", "1=3 1=5 1>6 2>1", []int{1, 0, 1, 0, 1, 2}},
		"a group between":           {six, "1>6 2=4 1>4 2>6", "1>2 2=4 2>6", []int{0, 1, 0, 1, 0, 2}},
		"a group between groups":    {six, "1=6 2=5 3=4 1>3 6>2 5>4", "1>2 1=6 2>3 2=5 3=4", []int{0, 1, 2, 2, 1, 0}},
		"before its equality":       {[]int{2, 5, 9}, "2=9 9>5", "2>5 2=9", []int{0, 1, 0}},
		"behind its equality":       {[]int{2, 5, 9}, "2=5 5>9", "2=5 2>9", []int{0, 0, 1}},
		"numbers with two digits":   {[]int{9, 10, 11, 99}, "99>9 99>10 10>9 10=11", "10>9 10=11 99>10", []int{2, 1, 1, 0}},
	}
}

func TestMatrixExamples(t *testing.T) {
	for name, e := range matrixExamples() {
		rels := parsed(t, e.text)
		if got, ok := impl.MatrixOf(e.ids, rels); !ok || impl.RelsText(got) != e.matrix {
			t.Errorf("%s: MatrixOf returned %v, %v, not %s", name, got, ok, e.matrix)
		}
		if got, ok := impl.MatrixLevels(e.ids, rels); !ok || !slices.Equal(got, e.levels) {
			t.Errorf("%s: MatrixLevels returned %v, %v, not %v", name, got, ok, e.levels)
		}
		if !impl.MatrixSame(e.ids, rels, parsed(t, e.matrix)) {
			t.Errorf("%s: MatrixSame does not hold for the matrix", name)
		}
		for _, id := range e.ids {
			if got, want := impl.MatrixBelow(e.ids, rels, id), expectedBelow(groupCase{e.ids, rels}, id); !slices.Equal(got, want) {
				t.Errorf("%s: MatrixBelow of %d returned %v, not %v", name, id, got, want)
			}
		}
	}
}

func TestMatrixBelowExamples(t *testing.T) {
	six := []int{1, 2, 3, 4, 5, 6}
	examples := map[string]struct {
		text  string
		id    int
		below []int
	}{
		"no relations":                 {"", 3, nil},
		"equalities alone":             {"1=2 2=3", 2, nil},
		"one below":                    {"3>4", 3, []int{4}},
		"nothing below":                {"3>4", 4, nil},
		"beside the relation":          {"3>4", 5, nil},
		"not what lies deeper":         {"1>2 2>3 1>3", 1, []int{2}},
		"several, one told later":      {"2>5 2>6 2>1", 2, []int{1, 5, 6}},
		"several, one lies between":    {"1>2 1>3 1>4 3>4", 1, []int{2, 3}},
		"the head":                     {"1=4 4>6", 1, []int{6}},
		"not the head":                 {"1=4 1>6", 4, []int{6}},
		"told of itself, not the head": {"1=4 4>6", 4, []int{6}},
		"another one of its group":     {"1=3 3=4 3>6", 4, []int{6}},
		"the head of the lower group":  {"3=6 1>6", 1, []int{3}},
		"both not the heads":           {"2=5 3=6 5>6", 5, []int{3}},
		"of each one of its group":     {"1=2 2=3 1>4 2>5 3>6", 3, []int{4, 5, 6}},
		"through its group":            {"1=2 1>3 2>4 3>4", 2, []int{3}},
		"the lower one of a group":     {"1=2 3>1", 2, nil},
		"a lesser head":                {"1=6 5>6", 5, []int{1}},
	}
	for name, e := range examples {
		if got := impl.MatrixBelow(six, parsed(t, e.text), e.id); !slices.Equal(got, e.below) {
			t.Errorf("%s: MatrixBelow returned %v, not %v", name, got, e.below)
		}
	}
}

func TestMatrixSameExamples(t *testing.T) {
	four := []int{1, 2, 3, 4}
	examples := map[string]struct {
		a, b string
		want bool
	}{
		"no relations":                      {"", "", true},
		"the same relations":                {"1>2 2=3", "1>2 2=3", true},
		"one that follows":                  {"1>2 1>3 2>3", "1>2 2>3", true},
		"an equality that follows":          {"1=2 1=3 2=3", "1=2 2=3", true},
		"told of others of the groups":      {"1=4 2=3 1>2", "1=4 2=3 4>3", true},
		"joined through others":             {"1=2 2=3 3=4", "1=4 2=4 3=4", true},
		"none, and an equality":             {"", "1=2", false},
		"same order, other groups":          {"1>3 2>3", "1=2 1>3", false},
		"same order, other groups, below":   {"1>2 1>3", "1>2 2=3", false},
		"same order, groups joined":         {"1=2 3=4", "1=2 2=3 3=4", false},
		"same order, as many groups":        {"1=2", "3=4", false},
		"same groups, no order":             {"1=2", "1=2 1>3", false},
		"same groups, other order":          {"1>2", "2>1", false},
		"same groups, one more":             {"1>2", "1>2 1>3", false},
		"same groups, one that is less":     {"1>2 2>3 3>4", "1>3 2>3 3>4", false},
		"both other":                        {"1=2 3>4", "1>2 3=4", false},
		"a circle and itself":               {"1>2 2>1", "1>2 2>1", true},
		"circles in both directions":        {"1>2 2>3 3>1", "1>3 2>1 3>2", true},
		"a circle with more relations":      {"1>2 2>3 3>1", "1>2 1>3 2>1 2>3 3>1 3>2", true},
		"a circle by an equality":           {"1=2 1>2", "1=2 2>1", true},
		"same order of a circle, no group":  {"1=2 1>2", "1>2 2>1", false},
		"a circle and none":                 {"1>2 2>1", "1>2", false},
		"a circle and none, same groups":    {"1=2 1>2", "1=2", false},
		"circles beside each other":         {"1>2 2>1 3>4 4>3", "1>2 2>1", false},
		"a circle that has one more":        {"1>2 2>1 3>4", "1>2 2>3 3>1 3>4", false},
		"a circle that the other one lacks": {"1>2 2>3", "1>2 2>3 3>1", false},
	}
	for name, e := range examples {
		a, b := parsed(t, e.a), parsed(t, e.b)
		if impl.MatrixSame(four, a, b) != e.want || impl.MatrixSame(four, b, a) != e.want {
			t.Errorf("%s: MatrixSame is not %v", name, e.want)
		}
	}
	if !impl.MatrixSame(nil, nil, nil) || !impl.MatrixSame([]int{7}, nil, nil) {
		t.Error("MatrixSame does not hold for no relations")
	}
}

func TestMatrixOf(t *testing.T) {
	fewer, full := 0, 0
	for _, c := range matrixCases() {
		got, want := matrixOf(t, c), expectedMatrix(c)
		if !slices.Equal(got, want) {
			t.Fatalf("MatrixOf(%v, %v) returned %v, not %v", c.ids, c.rels, got, want)
		}
		if len(got) < len(c.rels) {
			fewer++
		}
		if len(got) == impl.RelMax {
			full++
		}
	}
	if fewer < 500 || full < 20 {
		t.Errorf("only %d cases have relations that follow, and %d a matrix of RelMax relations", fewer, full)
	}
}

// Promise 43: the matrix is valid, has no more relations than before, and the same order and groups.
func TestMatrixOfIsTheSame(t *testing.T) {
	for _, c := range matrixCases() {
		list := matrixOf(t, c)
		if !impl.RelsValid(list) || len(list) > len(c.rels) || !impl.MatrixSame(c.ids, c.rels, list) {
			t.Fatalf("MatrixOf(%v, %v) returned %v", c.ids, c.rels, list)
		}
		if other := (groupCase{c.ids, list}); !slices.Equal(expectedHeads(other), expectedHeads(c)) ||
			!sameRows(expectedOrder(other), expectedOrder(c)) {
			t.Fatalf("MatrixOf(%v, %v) returned %v, of another order", c.ids, c.rels, list)
		}
	}
}

// Promise 44: without any one relation of the matrix the order or the groups are different.
func TestMatrixOfIsLeast(t *testing.T) {
	for _, c := range matrixCases() {
		list := matrixOf(t, c)
		for i, r := range list {
			if impl.MatrixSame(c.ids, c.rels, without(list, i)) || impl.MatrixSame(c.ids, list, without(list, i)) {
				t.Fatalf("MatrixOf(%v, %v) returned %v, and is the same without %v", c.ids, c.rels, list, r)
			}
		}
	}
}

// Promise 45: the matrix of the matrix is the matrix, and the same call returns the same.
func TestMatrixOfDoneAgain(t *testing.T) {
	for _, c := range matrixCases() {
		once := matrixOf(t, c)
		if again := matrixOf(t, c); !slices.Equal(again, once) {
			t.Fatalf("MatrixOf(%v, %v) returned %v, and then %v", c.ids, c.rels, once, again)
		}
		if twice := matrixOf(t, groupCase{c.ids, once}); !slices.Equal(twice, once) {
			t.Fatalf("MatrixOf(%v, %v) returned %v, and of these %v", c.ids, c.rels, once, twice)
		}
	}
}

// variantsOf returns relations of the contexts of a case, most of them of nearly the same order and groups.
func variantsOf(random *rand.Rand, c groupCase) [][]impl.Rel {
	least := expectedMatrix(c)
	variants := [][]impl.Rel{nil, c.rels, aboves(c.rels), equalities(c.rels), least}
	heads, order := expectedHeads(c), expectedOrder(c)
	var all, told []impl.Rel
	for i, a := range c.ids {
		for j, b := range c.ids {
			if order[i][j] && a != b {
				all = append(all, above(a, b))
			}
			if heads[i] == heads[j] && a < b {
				all = append(all, same(a, b))
			}
		}
	}
	// Relations of the groups may be told of any contexts of them.
	for _, r := range c.rels {
		if r.Kind == impl.RelAbove {
			uppers, lowers := impl.GroupMembers(c.ids, c.rels, r.A), impl.GroupMembers(c.ids, c.rels, r.B)
			told = append(told, above(uppers[random.Intn(len(uppers))], lowers[random.Intn(len(lowers))]))
		} else {
			told = append(told, r)
		}
	}
	follow := slices.Concat(least, all[:min(len(all), impl.RelMax-len(least))])
	variants = append(variants, firstRels(random, all), inOrder(told), inOrder(follow))
	for i := range c.rels {
		if i == 0 || random.Intn(3) == 0 {
			variants = append(variants, without(c.rels, i))
		}
	}
	if some := relsWithin(c.ids); len(some) > 0 && len(c.rels) < impl.RelMax {
		for range 3 {
			variants = append(variants, inOrder(append(slices.Clone(c.rels), some[random.Intn(len(some))])))
		}
	}
	// Within a group, a relation of heads is one of a context with itself, which is not valid.
	for i, rels := range variants {
		variants[i] = slices.DeleteFunc(slices.Clone(rels), func(r impl.Rel) bool { return r.A == r.B })
	}
	return variants
}

// Promises 46, 47 and 48: relations are the same exactly if their groups and orders are; then the matrix is the same.
func TestMatrixSame(t *testing.T) {
	random := rand.New(rand.NewSource(46))
	equal, circles, different := 0, 0, 0
	for _, c := range append(append(sparseCases(400), randomCases(200)...), append(circleCases(20), fullCases()...)...) {
		heads, order := expectedHeads(c), expectedOrder(c)
		for _, other := range variantsOf(random, c) {
			o := groupCase{c.ids, other}
			want := slices.Equal(heads, expectedHeads(o)) && sameRows(order, expectedOrder(o))
			if got := impl.MatrixSame(c.ids, c.rels, other); got != want || impl.MatrixSame(c.ids, other, c.rels) != want {
				t.Fatalf("MatrixSame(%v, %v, %v) is not %v", c.ids, c.rels, other, want)
			}
			if !want {
				different++
				continue
			}
			one, ok := impl.MatrixOf(c.ids, c.rels)
			two, ok2 := impl.MatrixOf(c.ids, other)
			if ok != ok2 || !slices.Equal(one, two) {
				t.Fatalf("MatrixOf(%v) is %v of %v and %v of %v", c.ids, one, c.rels, two, other)
			}
			if ok {
				equal++
			} else {
				circles++
			}
		}
	}
	if equal < 1000 || circles < 200 || different < 1000 {
		t.Errorf("%d pairs are the same, %d with a circle, and %d are not", equal, circles, different)
	}
}

// Promises 46, 47 and 48: all relations that three contexts can have are compared with all of them.
func TestMatrixSameOfThree(t *testing.T) {
	ids := []int{8, 9, 10}
	all := subsets(relsWithin(ids))
	var heads, matrices [][]int
	var orders [][][]bool
	for _, rels := range all {
		c := groupCase{ids, rels}
		heads, orders = append(heads, expectedHeads(c)), append(orders, expectedOrder(c))
		var flat []int
		list, _ := impl.MatrixOf(ids, rels)
		for _, r := range list {
			flat = append(flat, r.A, r.B, r.Kind)
		}
		matrices = append(matrices, flat)
	}
	for i, a := range all {
		for j, b := range all {
			want := slices.Equal(heads[i], heads[j]) && sameRows(orders[i], orders[j])
			if got := impl.MatrixSame(ids, a, b); got != want {
				t.Fatalf("MatrixSame(%v, %v, %v) returned %v", ids, a, b, got)
			}
			if want && !slices.Equal(matrices[i], matrices[j]) {
				t.Fatalf("MatrixOf(%v) is different for %v and %v", ids, a, b)
			}
		}
	}
}

// Promise 47: valid relations are the same as themselves, with a circle or without one.
func TestMatrixSameOfItself(t *testing.T) {
	for _, c := range append(orderCases(), fullCases()...) {
		if !impl.MatrixSame(c.ids, c.rels, slices.Clone(c.rels)) {
			t.Fatalf("MatrixSame(%v, %v) does not hold for the relations themselves", c.ids, c.rels)
		}
	}
}

func TestMatrixLevels(t *testing.T) {
	most := 0
	for _, c := range matrixCases() {
		got, want := levelsOf(t, c), expectedLevels(c)
		if !slices.Equal(got, want) {
			t.Fatalf("MatrixLevels(%v, %v) returned %v, not %v", c.ids, c.rels, got, want)
		}
		most = max(most, slices.Max(append(got, 0)))
	}
	if most != impl.ContextMax-1 {
		t.Errorf("the deepest context has the level %d", most)
	}
}

// Promise 49: what lies above has a lesser level, and contexts of a group have the same one.
func TestMatrixLevelsAscend(t *testing.T) {
	for _, c := range matrixCases() {
		levels, order, heads := levelsOf(t, c), expectedOrder(c), expectedHeads(c)
		for i := range c.ids {
			for j := range c.ids {
				if order[i][j] && levels[i] >= levels[j] || heads[i] == heads[j] && levels[i] != levels[j] {
					t.Fatalf("MatrixLevels(%v, %v) returned %v", c.ids, c.rels, levels)
				}
			}
		}
	}
}

// Promise 50: nothing lies above a context of the level 0, and one of the level before above each other one.
func TestMatrixLevelsHaveReasons(t *testing.T) {
	for _, c := range matrixCases() {
		levels, order := levelsOf(t, c), expectedOrder(c)
		for j, level := range levels {
			covered, reason := false, false
			for i := range c.ids {
				covered = covered || order[i][j]
				reason = reason || order[i][j] && levels[i] == level-1
			}
			if level < 0 || covered != (level > 0) || reason != (level > 0) {
				t.Fatalf("MatrixLevels(%v, %v) returned %v", c.ids, c.rels, levels)
			}
		}
	}
}

// The matrix has the same levels.
func TestMatrixLevelsOfMatrix(t *testing.T) {
	for _, c := range matrixCases() {
		one, two := levelsOf(t, c), levelsOf(t, groupCase{c.ids, matrixOf(t, c)})
		if !slices.Equal(one, two) {
			t.Fatalf("MatrixLevels(%v, %v) returned %v, and %v for the matrix", c.ids, c.rels, one, two)
		}
	}
}

// Promise 51: MatrixBelow has what the matrix leads to from the head of the context, and these lie below it.
func TestMatrixBelow(t *testing.T) {
	notHeads := 0
	for _, c := range matrixCases() {
		heads, order := expectedHeads(c), expectedOrder(c)
		for i, id := range c.ids {
			got, want := impl.MatrixBelow(c.ids, c.rels, id), expectedBelow(c, id)
			if !slices.Equal(got, want) {
				t.Fatalf("MatrixBelow(%v, %v, %d) returned %v, not %v", c.ids, c.rels, id, got, want)
			}
			for _, lower := range got {
				if !order[i][slices.Index(c.ids, lower)] {
					t.Fatalf("MatrixBelow(%v, %v, %d) returned %v", c.ids, c.rels, id, got)
				}
			}
			if heads[i] != id && len(got) > 0 {
				notHeads++
			}
		}
	}
	if notHeads < 100 {
		t.Errorf("only %d contexts that are not heads have others below them", notHeads)
	}
}

// Promise 51: the second contexts are read off MatrixOf.
func TestMatrixBelowIsMatrixOf(t *testing.T) {
	for _, c := range matrixCases() {
		list, groups := matrixOf(t, c), groupsOf(t, c)
		for i, id := range c.ids {
			var want []int
			for _, r := range list {
				if r.A == groups[i] && r.Kind == impl.RelAbove {
					want = append(want, r.B)
				}
			}
			if got := impl.MatrixBelow(c.ids, c.rels, id); !slices.Equal(got, want) || !impl.IdsValid(got) {
				t.Fatalf("MatrixBelow(%v, %v, %d) returned %v, but the matrix is %v", c.ids, c.rels, id, got, list)
			}
		}
	}
}

// Promise 52: no context lies between a context and one of MatrixBelow.
func TestMatrixBelowHasNoneBetween(t *testing.T) {
	for _, c := range matrixCases() {
		for _, id := range c.ids {
			for _, lower := range impl.MatrixBelow(c.ids, c.rels, id) {
				for _, between := range c.ids {
					if impl.OrderAbove(c.ids, c.rels, id, between) && impl.OrderAbove(c.ids, c.rels, between, lower) {
						t.Fatalf("MatrixBelow(%v, %v, %d) has %d, but %d lies between", c.ids, c.rels, id, lower, between)
					}
				}
			}
		}
	}
}

// ContextMax contexts without relations, as one group, in a row, with all that follows from it as far as there is room, and
// side by side.
func TestMatrixAtLimit(t *testing.T) {
	for _, ids := range [][]int{numbersOf(impl.ContextMax, 1, 1), numbersOf(impl.ContextMax, 88, 1), numbersOf(impl.ContextMax, 4, 8)} {
		back := slices.Clone(ids)
		slices.Reverse(back)
		group := headEqualities(groupCase{ids, chain(ids)})
		full := pathOf(ids)
		for _, r := range allBehind(ids) {
			if len(full) < impl.RelMax && !slices.Contains(full, r) {
				full = append(full, r)
			}
		}
		examples := []struct{ rels, want []impl.Rel }{
			{nil, nil},
			{chain(ids), group},
			{group, group},
			{pathOf(ids), pathOf(ids)},
			{pathOf(back), pathOf(back)},
			{inOrder(full), pathOf(ids)},
			{pairsOf(ids[:6], ids[6:11]), pairsOf(ids[:6], ids[6:11])},
			{pairsOf(ids[7:], ids[:6]), pairsOf(ids[7:], ids[:6])},
		}
		for _, e := range examples {
			if got, ok := impl.MatrixOf(ids, e.rels); !ok || !slices.Equal(got, e.want) {
				t.Errorf("MatrixOf(%v, %v) returned %v, %v, not %v", ids, e.rels, got, ok, e.want)
			}
			if !impl.MatrixSame(ids, e.rels, e.want) {
				t.Errorf("MatrixSame(%v, %v, %v) is false", ids, e.rels, e.want)
			}
		}
		levels := numbersOf(impl.ContextMax, 0, 1)
		if got, ok := impl.MatrixLevels(ids, pathOf(ids)); !ok || !slices.Equal(got, levels) {
			t.Errorf("MatrixLevels(%v, %v) returned %v, %v", ids, pathOf(ids), got, ok)
		}
		slices.Reverse(levels)
		if got, ok := impl.MatrixLevels(ids, pathOf(back)); !ok || !slices.Equal(got, levels) {
			t.Errorf("MatrixLevels(%v, %v) returned %v, %v", ids, pathOf(back), got, ok)
		}
		star := pairsOf(ids[:1], ids[1:])
		if got := impl.MatrixBelow(ids, star, ids[0]); !slices.Equal(got, ids[1:]) {
			t.Errorf("MatrixBelow(%v, %v, %d) returned %v", ids, star, ids[0], got)
		}
		star = pairsOf(back[:1], back[1:])
		if got := impl.MatrixBelow(ids, star, back[0]); !slices.Equal(got, ids[:len(ids)-1]) {
			t.Errorf("MatrixBelow(%v, %v, %d) returned %v", ids, star, back[0], got)
		}
	}
}

// Nothing is below a context that is not there, also if it is the number of a place or beside others.
func TestMatrixBelowOfMissingContext(t *testing.T) {
	for _, c := range append(groupCases(), fullCases()...) {
		for _, id := range append(numbersOf(15, 0, 1), -1, 50, 98, 99, 100, 101, math.MinInt, math.MaxInt) {
			if slices.Contains(c.ids, id) {
				continue
			}
			if got := impl.MatrixBelow(c.ids, c.rels, id); len(got) != 0 {
				t.Fatalf("MatrixBelow(%v, %v, %d) returned %v", c.ids, c.rels, id, got)
			}
		}
	}
	ids := []int{3, 5, 9}
	for id := -1; id <= impl.IdMax+1; id++ {
		if got := impl.MatrixBelow(ids, []impl.Rel{above(3, 5), above(5, 9)}, id); (len(got) > 0) != (id == 3 || id == 5) {
			t.Errorf("MatrixBelow of %d returned %v", id, got)
		}
	}
}

// With a circle, or if the arguments are invalid, there is no matrix, no levels and nothing below a context.
func TestMatrixOfInvalidArguments(t *testing.T) {
	for _, c := range invalidDigCases() {
		if got, ok := impl.MatrixOf(c.ids, c.rels); ok || len(got) != 0 {
			t.Errorf("MatrixOf(%v, %v) returned %v, %v", c.ids, c.rels, got, ok)
		}
		if got, ok := impl.MatrixLevels(c.ids, c.rels); ok || len(got) != 0 {
			t.Errorf("MatrixLevels(%v, %v) returned %v, %v", c.ids, c.rels, got, ok)
		}
		for _, id := range append([]int{0, 1, 2, 3, 4, 5, 99, 100}, c.ids[:min(len(c.ids), 13)]...) {
			if got := impl.MatrixBelow(c.ids, c.rels, id); len(got) != 0 {
				t.Errorf("MatrixBelow(%v, %v, %d) returned %v", c.ids, c.rels, id, got)
			}
		}
	}
}

// A circle that does not touch other contexts leaves them without a matrix, levels and contexts below them, too.
func TestMatrixBesideCircle(t *testing.T) {
	ids, rels := []int{1, 2, 3, 4, 5, 6}, []impl.Rel{above(1, 2), above(2, 3), above(5, 6), above(6, 5)}
	if got, ok := impl.MatrixOf(ids, rels); ok || len(got) != 0 {
		t.Errorf("MatrixOf(%v, %v) returned %v, %v", ids, rels, got, ok)
	}
	if got, ok := impl.MatrixLevels(ids, rels); ok || len(got) != 0 {
		t.Errorf("MatrixLevels(%v, %v) returned %v, %v", ids, rels, got, ok)
	}
	for _, id := range ids {
		if got := impl.MatrixBelow(ids, rels, id); len(got) != 0 {
			t.Errorf("MatrixBelow(%v, %v, %d) returned %v", ids, rels, id, got)
		}
	}
	if !impl.MatrixSame(ids, rels, append(slices.Clone(rels[:1]), append([]impl.Rel{above(1, 3)}, rels[1:]...)...)) {
		t.Error("MatrixSame does not hold beside a circle")
	}
}

// Invalid arguments are never the same, not even as themselves.
func TestMatrixSameOfInvalidArguments(t *testing.T) {
	for name, c := range invalidOrderCases() {
		for _, other := range [][]impl.Rel{nil, c.rels, {above(1, 2)}, {same(1, 2)}, {above(1, 2), above(2, 1)}} {
			if impl.MatrixSame(c.ids, c.rels, other) || impl.MatrixSame(c.ids, other, c.rels) {
				t.Errorf("%s: MatrixSame(%v, %v, %v) is true", name, c.ids, c.rels, other)
			}
		}
	}
	three := []int{1, 2, 3}
	for _, rels := range [][]impl.Rel{{above(1, 4)}, {above(4, 1)}, {same(1, 4)}, {same(3, 4)}} {
		if impl.MatrixSame(three, rels, nil) || impl.MatrixSame(three, nil, rels) || impl.MatrixSame(three, rels, rels) {
			t.Errorf("MatrixSame holds for %v, which has another context", rels)
		}
	}
	if impl.MatrixSame([]int{2, 1}, nil, nil) || impl.MatrixSame([]int{0}, nil, nil) {
		t.Error("MatrixSame holds for invalid numbers")
	}
}

// MatrixOf changes no argument, and its results share no memory.
func TestMatrixOfSharesNoMemory(t *testing.T) {
	for _, c := range append(append(allOrderCases(), digCases(100)...), fullCases()...) {
		room := groupCase{withRoom(c.ids, impl.ContextMax), withRoom(c.rels, impl.RelMax)}
		first, _ := impl.MatrixOf(room.ids, room.rels)
		second, _ := impl.MatrixOf(room.ids, room.rels)
		want := slices.Clone(second)
		overwrite(first, impl.Rel{A: -7, B: -7, Kind: -7})
		if !slices.Equal(second, want) {
			t.Fatalf("MatrixOf(%v, %v): two results share memory", c.ids, c.rels)
		}
		if !untouched(room, c) {
			t.Fatalf("MatrixOf(%v, %v) shares memory with an argument", c.ids, c.rels)
		}
	}
}

// MatrixLevels, MatrixSame and MatrixBelow change no argument, and their results share no memory.
func TestMatrixSharesNoMemory(t *testing.T) {
	calls := map[string]func(c groupCase, other []impl.Rel, id int) []int{
		"MatrixLevels": func(c groupCase, other []impl.Rel, id int) []int {
			levels, _ := impl.MatrixLevels(c.ids, c.rels)
			return levels
		},
		"MatrixSame":  func(c groupCase, other []impl.Rel, id int) []int { impl.MatrixSame(c.ids, c.rels, other); return nil },
		"MatrixBelow": func(c groupCase, other []impl.Rel, id int) []int { return impl.MatrixBelow(c.ids, c.rels, id) },
	}
	for name, call := range calls {
		for _, c := range append(append(allOrderCases(), digCases(100)...), fullCases()...) {
			for _, id := range append([]int{1}, c.ids[:min(len(c.ids), 13)]...) {
				room, other := groupCase{withRoom(c.ids, impl.ContextMax), withRoom(c.rels, impl.RelMax)}, withRoom(c.rels, impl.RelMax)
				first, second := call(room, other, id), call(room, other, id)
				want := slices.Clone(second)
				overwrite(first, -7)
				if !slices.Equal(second, want) {
					t.Fatalf("%s(%v, %v): two results share memory", name, c.ids, c.rels)
				}
				if !untouched(room, c) || !slices.Equal(other, c.rels) || !isZero(behind(other)) {
					t.Fatalf("%s(%v, %v) shares memory with an argument", name, c.ids, c.rels)
				}
			}
		}
	}
}
