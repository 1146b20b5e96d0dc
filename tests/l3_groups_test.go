package tests

import (
	"math"
	"math/rand"
	"slices"
	"testing"

	"loop.example/excavation/impl"
)

// groupCase has valid arguments of the functions of chapter 3.
type groupCase struct {
	ids  []int
	rels []impl.Rel
}

// numbersOf returns n numbers that begin with first and differ by step.
func numbersOf(n, first, step int) []int {
	var list []int
	for i := range n {
		list = append(list, first+i*step)
	}
	return list
}

// relsWithin returns all valid relations of some contexts, in the order of the document.
func relsWithin(ids []int) []impl.Rel {
	var list []impl.Rel
	for _, a := range ids {
		for _, b := range ids {
			if a != b {
				list = append(list, above(a, b))
			}
			if a < b {
				list = append(list, same(a, b))
			}
		}
	}
	return list
}

// inOrder returns relations in the order of the document, each once.
func inOrder(list []impl.Rel) []impl.Rel {
	sorted := slices.SortedFunc(slices.Values(list), func(r, s impl.Rel) int {
		return slices.Compare([]int{r.A, r.B, r.Kind}, []int{s.A, s.B, s.Kind})
	})
	return slices.Compact(sorted)
}

// chain returns the equalities of neighbours of a list, which make it one group, however the list is ordered.
func chain(list []int) []impl.Rel {
	var rels []impl.Rel
	for i := 1; i < len(list); i++ {
		rels = append(rels, same(min(list[i-1], list[i]), max(list[i-1], list[i])))
	}
	return inOrder(rels)
}

// permutations returns a list in all orders.
func permutations(list []int) [][]int {
	if len(list) == 0 {
		return [][]int{{}}
	}
	var all [][]int
	for i, first := range list {
		for _, rest := range permutations(without(list, i)) {
			all = append(all, append([]int{first}, rest...))
		}
	}
	return all
}

// subsets returns all parts of some relations, each in their order.
func subsets(rels []impl.Rel) [][]impl.Rel {
	all := [][]impl.Rel{nil}
	for _, r := range rels {
		for _, part := range all {
			all = append(all, append(slices.Clone(part), r))
		}
	}
	return all
}

// equalities returns those of the relations that are equalities.
func equalities(rels []impl.Rel) []impl.Rel {
	return slices.DeleteFunc(slices.Clone(rels), func(r impl.Rel) bool { return r.Kind != impl.RelEqual })
}

// randomCases returns cases with relations of both kinds in different numbers; they are the same in each run.
func randomCases(n int) []groupCase {
	random := rand.New(rand.NewSource(3))
	var cases []groupCase
	for range n {
		ids := random.Perm(impl.IdMax)[:random.Intn(impl.ContextMax+1)]
		for i := range ids {
			ids[i]++
		}
		slices.Sort(ids)
		all := relsWithin(ids)
		equal := equalities(all)
		var rels []impl.Rel
		for range min(random.Intn(len(ids)+1), len(equal)) {
			rels = append(rels, equal[random.Intn(len(equal))])
		}
		for range min(random.Intn(12), len(all)) {
			rels = append(rels, all[random.Intn(len(all))])
		}
		cases = append(cases, groupCase{ids, inOrder(rels)})
	}
	return cases
}

// groupCases returns valid arguments: the edge cases that the document names, all small ones, and some of each size.
func groupCases() []groupCase {
	full := numbersOf(impl.ContextMax, 5, 8)
	cases := []groupCase{
		{nil, nil},
		{[]int{}, []impl.Rel{}},
		{[]int{1}, nil},
		{[]int{impl.IdMax}, nil},
		{full, nil},
		{full, relsWithin(full)[:impl.RelMax]},
		{full, equalities(relsWithin(full))[:impl.RelMax]},
		{full, chain(full)},
		{[]int{1, 2, 3, 4}, []impl.Rel{above(1, 2), same(2, 4), same(3, 4)}},
		{[]int{1, 2, 3, 4}, []impl.Rel{same(1, 4), same(2, 3), same(3, 4)}},
		{[]int{1, 2, 3}, []impl.Rel{same(1, 3), above(2, 3), above(3, 2)}},
		{[]int{1, 2}, []impl.Rel{above(1, 2), above(2, 1)}},
		{[]int{1, 2}, []impl.Rel{above(1, 2), same(1, 2), above(2, 1)}},
	}
	for n := 1; n <= impl.ContextMax; n++ {
		cases = append(cases, groupCase{numbersOf(n, 1, 1), nil}, groupCase{numbersOf(n, impl.IdMax-n+1, 1), nil})
	}
	five := []int{3, 10, 11, 42, 99}
	for _, rels := range subsets(equalities(relsWithin(five))) {
		cases = append(cases, groupCase{five, rels})
	}
	three := []int{8, 9, 10}
	for _, rels := range subsets(relsWithin(three)) {
		cases = append(cases, groupCase{three, rels})
	}
	return append(cases, randomCases(300)...)
}

// expectedHeads returns the heads, found in another way: each equality spreads the lesser number until nothing changes.
func expectedHeads(c groupCase) []int {
	heads := slices.Clone(c.ids)
	for changed := true; changed; {
		changed = false
		for _, r := range equalities(c.rels) {
			a, b := slices.Index(c.ids, r.A), slices.Index(c.ids, r.B)
			least := min(heads[a], heads[b])
			changed = changed || heads[a] != heads[b]
			heads[a], heads[b] = least, least
		}
	}
	return heads
}

// groupsOf returns what GroupsOf returns for valid arguments, for which it must not fail.
func groupsOf(t *testing.T, c groupCase) []int {
	t.Helper()
	groups, ok := impl.GroupsOf(c.ids, c.rels)
	if !ok || len(groups) != len(c.ids) {
		t.Fatalf("GroupsOf(%v, %v) returned %v, %v", c.ids, c.rels, groups, ok)
	}
	return groups
}

// headOf returns the head of a context.
func headOf(c groupCase, groups []int, id int) int {
	return groups[slices.Index(c.ids, id)]
}

// invalidIds returns invalid numbers, by what is wrong with them.
func invalidIds() map[string][]int {
	return map[string][]int{
		"number 0":          {0},
		"number 0 first":    {0, 1, 2},
		"number -1":         {-1, 1, 2},
		"least number":      {math.MinInt, 1, 2},
		"number 100":        {1, 2, 100},
		"number 100 alone":  {100},
		"greatest number":   {1, 2, math.MaxInt},
		"twice":             {1, 2, 2},
		"twice at once":     {1, 1, 2},
		"twice apart":       {1, 2, 1},
		"not ascending":     {1, 2, 5, 4},
		"descending":        {3, 2, 1},
		"the first later":   {9, 1, 2},
		"0 in the midst":    {1, 0, 2},
		"100 in the midst":  {1, 100, 2},
		"one too many":      numbersOf(impl.ContextMax+1, 1, 1),
		"one too many, far": numbersOf(impl.ContextMax+1, 1, 8),
		"all numbers":       numbersOf(impl.IdMax, 1, 1),
		"far too many":      numbersOf(500, 1, 1),
	}
}

// invalidGroupCases returns invalid arguments, by what is wrong with them.
func invalidGroupCases() map[string]groupCase {
	twelve := numbersOf(impl.ContextMax, 1, 1)
	cases := map[string]groupCase{
		"one relation too many":    {twelve, relsWithin(twelve)[:impl.RelMax+1]},
		"one equality too many":    {twelve, equalities(relsWithin(twelve))[:impl.RelMax+1]},
		"first is missing":         {[]int{2, 3}, []impl.Rel{above(1, 2)}},
		"second is missing":        {[]int{1, 3}, []impl.Rel{above(1, 2)}},
		"both are missing":         {[]int{3, 4}, []impl.Rel{above(1, 2)}},
		"first of an equality":     {[]int{2, 3}, []impl.Rel{same(1, 2)}},
		"second of an equality":    {[]int{1, 3}, []impl.Rel{same(1, 2)}},
		"both of an equality":      {[]int{3, 4}, []impl.Rel{same(1, 2)}},
		"missing behind others":    {[]int{1, 2, 3}, []impl.Rel{same(1, 2), above(2, 3), same(3, 4)}},
		"missing before others":    {[]int{2, 3, 4}, []impl.Rel{above(1, 2), same(2, 3), same(3, 4)}},
		"a gap is missing":         {[]int{1, 2, 4, 5}, []impl.Rel{same(1, 2), same(2, 3), same(4, 5)}},
		"relation without context": {nil, []impl.Rel{above(1, 2)}},
		"equality without context": {nil, []impl.Rel{same(1, 2)}},
		"not the only context":     {[]int{1}, []impl.Rel{same(1, 2)}},
	}
	for name, ids := range invalidIds() {
		cases["numbers, "+name] = groupCase{ids, nil}
		cases["numbers, "+name+", with a relation"] = groupCase{ids, []impl.Rel{same(1, 2)}}
	}
	for name, rels := range invalidRels() {
		cases["relations, "+name] = groupCase{twelve, rels}
	}
	return cases
}

func TestIdsValid(t *testing.T) {
	for _, c := range groupCases() {
		if !impl.IdsValid(c.ids) {
			t.Errorf("IdsValid(%v) is false", c.ids)
		}
	}
	for name, ids := range invalidIds() {
		if impl.IdsValid(ids) {
			t.Errorf("%s: IdsValid(%v) is true", name, ids)
		}
	}
	for id := -2; id <= impl.IdMax+2; id++ {
		if want := id >= 1 && id <= 99; impl.IdsValid([]int{id}) != want {
			t.Errorf("IdsValid of %d alone is %v", id, !want)
		}
	}
}

// Promise 17: without any one number they stay valid; with one twice, or two exchanged, they are not.
func TestIdsWithoutOneAndWithOneTwice(t *testing.T) {
	for n := 1; n <= impl.ContextMax; n++ {
		for _, ids := range [][]int{numbersOf(n, 1, 1), numbersOf(n, 3, 8), numbersOf(n, impl.IdMax-n+1, 1)} {
			for i, id := range ids {
				if rest := without(ids, i); !impl.IdsValid(rest) {
					t.Errorf("IdsValid(%v) is false", rest)
				}
				for place := range len(ids) + 1 {
					if twice := slices.Insert(slices.Clone(ids), place, id); impl.IdsValid(twice) {
						t.Errorf("IdsValid(%v) is true", twice)
					}
				}
				if i > 0 {
					exchanged := slices.Clone(ids)
					exchanged[0], exchanged[i] = id, ids[0]
					if impl.IdsValid(exchanged) {
						t.Errorf("IdsValid(%v) is true", exchanged)
					}
				}
			}
		}
	}
}

// Promise 18: equal contexts have the same head, which is its own head and not greater than they are.
func TestGroupsOf(t *testing.T) {
	for _, c := range groupCases() {
		groups := groupsOf(t, c)
		if want := expectedHeads(c); !slices.Equal(groups, want) {
			t.Errorf("GroupsOf(%v, %v) returned %v, not %v", c.ids, c.rels, groups, want)
		}
		for _, r := range equalities(c.rels) {
			if headOf(c, groups, r.A) != headOf(c, groups, r.B) {
				t.Errorf("GroupsOf(%v, %v) returned %v", c.ids, c.rels, groups)
			}
		}
		for i, head := range groups {
			if head > c.ids[i] || headOf(c, groups, head) != head {
				t.Errorf("GroupsOf(%v, %v) returned %v", c.ids, c.rels, groups)
			}
		}
	}
}

func TestGroupsOfExamples(t *testing.T) {
	examples := []struct {
		ids  []int
		text string
		want []int
	}{
		{nil, "", nil},
		{[]int{7}, "", []int{7}},
		{[]int{1, 2, 3, 4}, "1>2 2=4 3=4", []int{1, 2, 2, 2}},
		{[]int{1, 2, 3, 4}, "1=4 2=3 3=4", []int{1, 1, 1, 1}},
		{[]int{1, 2, 3, 4}, "1=2 3=4", []int{1, 1, 3, 3}},
		{[]int{1, 2, 3, 4}, "1=3 2=3", []int{1, 1, 1, 4}},
		{[]int{1, 2, 3, 4}, "1>2 2>1 3>4", []int{1, 2, 3, 4}},
		{[]int{9, 10, 11}, "9=11", []int{9, 10, 9}},
		{[]int{2, 5, 9, 10, 99}, "2=99 5=9 9=10", []int{2, 5, 5, 5, 2}},
		{[]int{2, 5, 9, 10, 99}, "2=99 5=9 9=10 10=99", []int{2, 2, 2, 2, 2}},
	}
	for _, e := range examples {
		rels, parsed := impl.RelsParse(e.text)
		if got, ok := impl.GroupsOf(e.ids, rels); !parsed || !ok || !slices.Equal(got, e.want) {
			t.Errorf("GroupsOf(%v, %q) returned %v, %v", e.ids, e.text, got, ok)
		}
	}
}

// Contexts that are joined through others are one group, in whatever order this is told.
func TestGroupsOfChains(t *testing.T) {
	for _, order := range permutations([]int{4, 9, 10, 50, 98, 99}) {
		c := groupCase{slices.Sorted(slices.Values(order)), chain(order)}
		if groups := groupsOf(t, c); !slices.Equal(groups, []int{4, 4, 4, 4, 4, 4}) {
			t.Errorf("GroupsOf(%v, %v) returned %v", c.ids, c.rels, groups)
		}
		two := groupCase{c.ids, inOrder(append(chain(order[:3]), chain(order[3:])...))}
		first, second := slices.Min(order[:3]), slices.Min(order[3:])
		for i, head := range groupsOf(t, two) {
			want := second
			if slices.Contains(order[:3], c.ids[i]) {
				want = first
			}
			if head != want {
				t.Errorf("GroupsOf(%v, %v) has the head %d of %d", two.ids, two.rels, head, c.ids[i])
			}
		}
	}
}

// ContextMax contexts may be one group, by a chain in any order.
func TestGroupsOfLongChains(t *testing.T) {
	random := rand.New(rand.NewSource(12))
	ids := numbersOf(impl.ContextMax, 2, 8)
	for range 200 {
		order := slices.Clone(ids)
		random.Shuffle(len(order), func(i, j int) { order[i], order[j] = order[j], order[i] })
		c := groupCase{ids, chain(order)}
		if groups := groupsOf(t, c); !slices.Equal(groups, slices.Repeat([]int{2}, impl.ContextMax)) {
			t.Errorf("GroupsOf(%v, %v) returned %v", c.ids, c.rels, groups)
		}
		if heads := impl.GroupHeads(c.ids, c.rels); !slices.Equal(heads, []int{2}) {
			t.Errorf("GroupHeads(%v, %v) returned %v", c.ids, c.rels, heads)
		}
		if members := impl.GroupMembers(c.ids, c.rels, order[5]); !slices.Equal(members, ids) {
			t.Errorf("GroupMembers(%v, %v, %d) returned %v", c.ids, c.rels, order[5], members)
		}
	}
}

// Promise 19: without equalities each context is its own head, also if others lie above each other.
func TestGroupsOfWithoutEqualities(t *testing.T) {
	for _, c := range groupCases() {
		rels := slices.DeleteFunc(slices.Clone(c.rels), func(r impl.Rel) bool { return r.Kind == impl.RelEqual })
		if groups := groupsOf(t, groupCase{c.ids, rels}); !slices.Equal(groups, c.ids) {
			t.Errorf("GroupsOf(%v, %v) returned %v", c.ids, rels, groups)
		}
	}
}

// Promise 20: what has the same head without a relation has the same head with it.
func TestGroupsOfWithoutOneRelation(t *testing.T) {
	for _, c := range groupCases() {
		groups := groupsOf(t, c)
		for k, r := range c.rels {
			fewer := groupsOf(t, groupCase{c.ids, without(c.rels, k)})
			for i := range fewer {
				for j := range fewer {
					if fewer[i] == fewer[j] && groups[i] != groups[j] {
						t.Errorf("%v divides %v and %v: %v, %v", r, c.ids[i], c.ids[j], fewer, groups)
					}
				}
			}
			if r.Kind == impl.RelAbove && !slices.Equal(fewer, groups) {
				t.Errorf("%v changes the groups %v to %v", r, fewer, groups)
			}
		}
	}
}

// Promise 21: a context that is not its own head is in an equality with another one of its group.
func TestGroupsOfHasReasons(t *testing.T) {
	for _, c := range groupCases() {
		groups := groupsOf(t, c)
		for i, id := range c.ids {
			reason := slices.ContainsFunc(equalities(c.rels), func(r impl.Rel) bool {
				return (r.A == id || r.B == id) && headOf(c, groups, r.A) == groups[i] && headOf(c, groups, r.B) == groups[i]
			})
			if groups[i] != id && !reason {
				t.Errorf("GroupsOf(%v, %v) returned %v", c.ids, c.rels, groups)
			}
		}
	}
}

// Promise 22: the heads are the contexts that are their own heads.
func TestGroupHeads(t *testing.T) {
	for _, c := range groupCases() {
		groups := groupsOf(t, c)
		var want []int
		for i, id := range c.ids {
			if groups[i] == id {
				want = append(want, id)
			}
		}
		got := impl.GroupHeads(c.ids, c.rels)
		if !slices.Equal(got, want) || !impl.IdsValid(got) {
			t.Errorf("GroupHeads(%v, %v) returned %v, not %v", c.ids, c.rels, got, want)
		}
	}
}

// Promise 23: the members of a group are those with the same head; each of them has the same members.
func TestGroupMembers(t *testing.T) {
	for _, c := range groupCases() {
		heads := expectedHeads(c)
		for i, id := range c.ids {
			var want []int
			for j, other := range c.ids {
				if heads[j] == heads[i] {
					want = append(want, other)
				}
			}
			got := impl.GroupMembers(c.ids, c.rels, id)
			if !slices.Equal(got, want) || !slices.Contains(got, id) || !impl.IdsValid(got) {
				t.Errorf("GroupMembers(%v, %v, %d) returned %v, not %v", c.ids, c.rels, id, got, want)
			}
			for _, other := range got {
				if members := impl.GroupMembers(c.ids, c.rels, other); !slices.Equal(members, got) {
					t.Errorf("GroupMembers(%v, %v, %d) returned %v, not %v", c.ids, c.rels, other, members, got)
				}
			}
		}
	}
}

// A number that is not among the contexts has no members, also not those of another one.
func TestGroupMembersOfMissingContext(t *testing.T) {
	for _, c := range groupCases() {
		for _, id := range []int{0, -1, 1, 2, 4, 9, 12, 50, 98, 99, 100, math.MinInt, math.MaxInt} {
			if got := impl.GroupMembers(c.ids, c.rels, id); !slices.Contains(c.ids, id) && len(got) != 0 {
				t.Errorf("GroupMembers(%v, %v, %d) returned %v", c.ids, c.rels, id, got)
			}
		}
	}
}

// Nothing is returned for invalid arguments.
func TestGroupsOfInvalidArguments(t *testing.T) {
	for name, c := range invalidGroupCases() {
		if got, ok := impl.GroupsOf(c.ids, c.rels); ok || len(got) != 0 {
			t.Errorf("%s: GroupsOf(%v, %v) returned %v, %v", name, c.ids, c.rels, got, ok)
		}
		if got := impl.GroupHeads(c.ids, c.rels); len(got) != 0 {
			t.Errorf("%s: GroupHeads(%v, %v) returned %v", name, c.ids, c.rels, got)
		}
		for _, id := range append([]int{0, 1, 2, 5, 99, 100}, c.ids...) {
			if got := impl.GroupMembers(c.ids, c.rels, id); len(got) != 0 {
				t.Errorf("%s: GroupMembers(%v, %v, %d) returned %v", name, c.ids, c.rels, id, got)
			}
		}
	}
}

// ContextMax contexts with RelMax relations are valid, with one context or relation more they are not.
func TestGroupsOfAtLimit(t *testing.T) {
	ids := numbersOf(impl.ContextMax, 1, 1)
	rels := relsWithin(ids)
	groupsOf(t, groupCase{ids, rels[:impl.RelMax]})
	if got, ok := impl.GroupsOf(ids, rels[:impl.RelMax+1]); ok || len(got) != 0 {
		t.Errorf("GroupsOf of one relation too many returned %v, %v", got, ok)
	}
	more := numbersOf(impl.ContextMax+1, 1, 1)
	if got, ok := impl.GroupsOf(more, rels[:impl.RelMax]); ok || len(got) != 0 {
		t.Errorf("GroupsOf of one context too many returned %v, %v", got, ok)
	}
}

// IdsValid, GroupsOf, GroupHeads and GroupMembers change no argument, and their results share no memory.
func TestGroupsShareNoMemory(t *testing.T) {
	calls := map[string]func(groupCase) []int{
		"IdsValid":   func(c groupCase) []int { impl.IdsValid(c.ids); return nil },
		"GroupsOf":   func(c groupCase) []int { list, _ := impl.GroupsOf(c.ids, c.rels); return list },
		"GroupHeads": func(c groupCase) []int { return impl.GroupHeads(c.ids, c.rels) },
		"GroupMembers": func(c groupCase) []int {
			if len(c.ids) == 0 {
				return impl.GroupMembers(c.ids, c.rels, 1)
			}
			return impl.GroupMembers(c.ids, c.rels, c.ids[len(c.ids)-1])
		},
	}
	cases := groupCases()
	for _, c := range invalidGroupCases() {
		cases = append(cases, c)
	}
	for name, call := range calls {
		for _, c := range cases {
			room := groupCase{withRoom(c.ids, impl.ContextMax), withRoom(c.rels, impl.RelMax)}
			first, second := call(room), call(room)
			want := slices.Clone(second)
			overwrite(first, -7)
			if !slices.Equal(second, want) {
				t.Fatalf("%s(%v, %v): two results share memory", name, c.ids, c.rels)
			}
			if !slices.Equal(room.ids, c.ids) || !slices.Equal(room.rels, c.rels) || !isZero(behind(room.rels)) || !isZero(behind(room.ids)) {
				t.Fatalf("%s(%v, %v) shares memory with an argument", name, c.ids, c.rels)
			}
		}
	}
}
