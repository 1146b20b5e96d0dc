package tests

import (
	"math"
	"slices"
	"testing"

	"loop.example/excavation/impl"
)

// layer is a valid context with a number.
func layer(id int) impl.Context {
	return impl.Context{Id: id, Kind: impl.KindLayer, Area: 1}
}

// contextsOf returns n contexts whose numbers begin with first and differ by step, of all kinds and areas in turn.
func contextsOf(n, first, step int) []impl.Context {
	var list []impl.Context
	for i := range n {
		list = append(list, impl.Context{
			Id:   first + i*step,
			Kind: impl.KindLayer + i%(impl.KindWall-impl.KindLayer+1),
			Area: 1 + (i*i+first)%impl.AreaMax,
		})
	}
	return list
}

// validContexts returns valid lists of each length, with the first numbers, with the last ones, and with gaps.
func validContexts() [][]impl.Context {
	lists := [][]impl.Context{nil, {}}
	for n := 1; n <= impl.ContextMax; n++ {
		lists = append(lists,
			contextsOf(n, 1, 1),
			contextsOf(n, 2, 3),
			contextsOf(n, impl.IdMax-n+1, 1),
			contextsOf(n, impl.IdMax-8*(n-1), 8),
		)
	}
	return lists
}

// invalidContexts returns invalid lists, by what is wrong with them.
func invalidContexts() map[string][]impl.Context {
	return map[string][]impl.Context{
		"number 0":          {{Id: 0, Kind: 1, Area: 1}, layer(5)},
		"number -1":         {{Id: -1, Kind: 1, Area: 1}, layer(5)},
		"least number":      {{Id: math.MinInt, Kind: 1, Area: 1}, layer(5)},
		"number 100":        {layer(5), layer(impl.IdMax + 1)},
		"greatest number":   {layer(5), layer(math.MaxInt)},
		"kind 0":            {layer(5), {Id: 6, Kind: 0, Area: 1}},
		"kind -1":           {layer(5), {Id: 6, Kind: -1, Area: 1}},
		"kind 5":            {{Id: 4, Kind: impl.KindWall + 1, Area: 1}, layer(5)},
		"greatest kind":     {layer(5), {Id: 6, Kind: math.MaxInt, Area: 1}},
		"area 0":            {{Id: 4, Kind: 1, Area: 0}, layer(5)},
		"area -1":           {layer(5), {Id: 6, Kind: 1, Area: -1}},
		"area 5":            {layer(5), {Id: 6, Kind: 1, Area: impl.AreaMax + 1}},
		"least area":        {layer(5), {Id: 6, Kind: 1, Area: math.MinInt}},
		"number twice":      {layer(5), layer(5)},
		"twice, other kind": {layer(5), {Id: 5, Kind: impl.KindCut, Area: 2}},
		"not ascending":     {layer(5), layer(7), layer(6)},
		"descending":        {layer(7), layer(5)},
		"the first later":   {layer(7), layer(8), layer(5)},
		"one too many":      contextsOf(impl.ContextMax+1, 1, 1),
		"far too many":      contextsOf(impl.IdMax, 1, 1),
	}
}

// notContexts returns invalid contexts, by what is wrong with them.
func notContexts() map[string]impl.Context {
	return map[string]impl.Context{
		"zero value":      {},
		"number 0":        {Id: 0, Kind: 1, Area: 1},
		"number -5":       {Id: -5, Kind: 1, Area: 1},
		"number 100":      {Id: impl.IdMax + 1, Kind: 1, Area: 1},
		"greatest number": {Id: math.MaxInt, Kind: 1, Area: 1},
		"kind 0":          {Id: 5, Kind: 0, Area: 1},
		"kind 5":          {Id: 5, Kind: impl.KindWall + 1, Area: 1},
		"least kind":      {Id: 5, Kind: math.MinInt, Area: 1},
		"area 0":          {Id: 5, Kind: 1, Area: 0},
		"area 5":          {Id: 5, Kind: 1, Area: impl.AreaMax + 1},
		"greatest area":   {Id: 5, Kind: 1, Area: math.MaxInt},
	}
}

// hasNumber reports whether a context of a list has a number.
func hasNumber(list []impl.Context, id int) bool {
	return slices.ContainsFunc(list, func(c impl.Context) bool { return c.Id == id })
}

func TestContextConstants(t *testing.T) {
	got := []int{impl.IdMax, impl.ContextMax, impl.AreaMax, impl.KindLayer, impl.KindCut, impl.KindFill, impl.KindWall}
	if !slices.Equal(got, []int{99, 12, 4, 1, 2, 3, 4}) {
		t.Errorf("the constants are %v", got)
	}
}

func TestContextsValid(t *testing.T) {
	for _, list := range validContexts() {
		if !impl.ContextsValid(list) {
			t.Errorf("ContextsValid(%v) is false", list)
		}
	}
	for name, list := range invalidContexts() {
		if impl.ContextsValid(list) {
			t.Errorf("%s: ContextsValid(%v) is true", name, list)
		}
	}
	for name, c := range notContexts() {
		if impl.ContextsValid([]impl.Context{c}) {
			t.Errorf("%s: ContextsValid of %v alone is true", name, c)
		}
	}
}

func TestContextsValidForEachKindAndArea(t *testing.T) {
	for kind := -1; kind <= impl.KindWall+2; kind++ {
		for area := -1; area <= impl.AreaMax+2; area++ {
			list := []impl.Context{{Id: 50, Kind: kind, Area: area}}
			want := kind >= 1 && kind <= 4 && area >= 1 && area <= 4
			if impl.ContextsValid(list) != want {
				t.Errorf("ContextsValid(%v) is %v", list, !want)
			}
		}
	}
}

// Promises 1 and 2: the context is at its place, and all others are kept in order.
func TestContextsAddPutsAtPlace(t *testing.T) {
	for _, list := range validContexts() {
		if len(list) == impl.ContextMax {
			continue
		}
		for id := 1; id <= impl.IdMax; id++ {
			if hasNumber(list, id) {
				continue
			}
			c := impl.Context{Id: id, Kind: 1 + id%4, Area: 1 + id/4%4}
			got, ok := impl.ContextsAdd(list, c)
			if !ok || !impl.ContextsValid(got) || len(got) != len(list)+1 {
				t.Fatalf("ContextsAdd(%v, %v) returned %v, %v", list, c, got, ok)
			}
			place := impl.ContextsFind(got, id)
			if place < 0 || place >= len(got) || got[place] != c {
				t.Fatalf("ContextsFind(%v, %d) returned %d", got, id, place)
			}
			if !slices.Equal(without(got, place), list) {
				t.Fatalf("ContextsAdd(%v, %v) returned %v", list, c, got)
			}
		}
	}
}

// Promise 1: numbers at both ends, and the last context for which there is room.
func TestContextsAddAtLimits(t *testing.T) {
	list := []impl.Context{}
	for _, id := range []int{50, 1, 99, 49, 51, 2, 98, 30, 70, 10, 90, 60} {
		var ok bool
		if list, ok = impl.ContextsAdd(list, layer(id)); !ok {
			t.Fatalf("ContextsAdd of %d returned %v, false", id, list)
		}
	}
	want := []impl.Context{
		layer(1), layer(2), layer(10), layer(30), layer(49), layer(50),
		layer(51), layer(60), layer(70), layer(90), layer(98), layer(99),
	}
	if !slices.Equal(list, want) {
		t.Errorf("adding one after the other returned %v", list)
	}
}

// Promise 3: it fails exactly if the number is used or there is no room, and changes nothing then.
func TestContextsAddFailsExactly(t *testing.T) {
	for _, list := range validContexts() {
		for id := 1; id <= impl.IdMax; id++ {
			c := impl.Context{Id: id, Kind: impl.KindFill, Area: 3}
			got, ok := impl.ContextsAdd(list, c)
			if want := !hasNumber(list, id) && len(list) < impl.ContextMax; ok != want {
				t.Fatalf("ContextsAdd(%v, %v) returned %v", list, c, ok)
			}
			if !ok && !slices.Equal(got, list) {
				t.Fatalf("ContextsAdd(%v, %v) failed and returned %v", list, c, got)
			}
		}
	}
}

// Promise 3: a context that is there already is a number that is used, like any other one.
func TestContextsAddOfSameContext(t *testing.T) {
	for _, list := range validContexts() {
		for _, c := range list {
			if got, ok := impl.ContextsAdd(list, c); ok || !slices.Equal(got, list) {
				t.Errorf("ContextsAdd(%v, %v) returned %v, %v", list, c, got, ok)
			}
		}
	}
}

// Invalid arguments are checked first: neither a used number nor a lack of room brings the list back.
func TestContextsAddOfInvalidArguments(t *testing.T) {
	for name, list := range invalidContexts() {
		for _, id := range []int{1, 5, 6, 50, impl.IdMax} {
			if got, ok := impl.ContextsAdd(list, layer(id)); ok || len(got) != 0 {
				t.Errorf("%s: ContextsAdd(%v, %d) returned %v, %v", name, list, id, got, ok)
			}
		}
	}
	for name, c := range notContexts() {
		for _, list := range validContexts() {
			if got, ok := impl.ContextsAdd(list, c); ok || len(got) != 0 {
				t.Errorf("%s: ContextsAdd(%v, %v) returned %v, %v", name, list, c, got, ok)
			}
		}
	}
}

// Promise 4: the place has the number, or no context has it.
func TestContextsFind(t *testing.T) {
	for _, list := range validContexts() {
		for _, id := range []int{math.MinInt, -1, 0, impl.IdMax + 1, math.MaxInt} {
			if place := impl.ContextsFind(list, id); place != -1 {
				t.Errorf("ContextsFind(%v, %d) returned %d", list, id, place)
			}
		}
		for id := 1; id <= impl.IdMax; id++ {
			want := slices.IndexFunc(list, func(c impl.Context) bool { return c.Id == id })
			if place := impl.ContextsFind(list, id); place != want {
				t.Errorf("ContextsFind(%v, %d) returned %d", list, id, place)
			}
		}
	}
}

func TestContextsFindInInvalidContexts(t *testing.T) {
	for name, list := range invalidContexts() {
		for _, c := range list {
			if place := impl.ContextsFind(list, c.Id); place != -1 {
				t.Errorf("%s: ContextsFind(%v, %d) returned %d", name, list, c.Id, place)
			}
		}
	}
}

// Promise 5: the numbers are those of the area, in ascending order.
func TestContextsArea(t *testing.T) {
	for _, list := range validContexts() {
		for area := -1; area <= impl.AreaMax+2; area++ {
			var want []int
			for _, c := range list {
				if c.Area == area {
					want = append(want, c.Id)
				}
			}
			if got := impl.ContextsArea(list, area); !slices.Equal(got, want) {
				t.Errorf("ContextsArea(%v, %d) returned %v", list, area, got)
			}
		}
	}
}

// Promise 6: all areas together have each context once.
func TestContextsAreaOfAllAreas(t *testing.T) {
	for _, list := range validContexts() {
		n := 0
		for area := 1; area <= impl.AreaMax; area++ {
			n += len(impl.ContextsArea(list, area))
		}
		if n != len(list) {
			t.Errorf("the areas of %v have %d contexts", list, n)
		}
	}
}

func TestContextsAreaOfInvalidContexts(t *testing.T) {
	for name, list := range invalidContexts() {
		for _, c := range list {
			if got := impl.ContextsArea(list, c.Area); len(got) != 0 {
				t.Errorf("%s: ContextsArea(%v, %d) returned %v", name, list, c.Area, got)
			}
		}
	}
}

// Promise 7: without any one context they stay valid; with one twice they are not.
func TestContextsWithoutOneAndWithOneTwice(t *testing.T) {
	for _, list := range validContexts() {
		for i, c := range list {
			if rest := without(list, i); !impl.ContextsValid(rest) {
				t.Errorf("ContextsValid(%v) is false", rest)
			}
			for place := range len(list) + 1 {
				if twice := slices.Insert(slices.Clone(list), place, c); impl.ContextsValid(twice) {
					t.Errorf("ContextsValid(%v) is true", twice)
				}
			}
		}
	}
}

// Results share no memory with arguments, also where a context would fit behind the argument.
func TestContextsAddSharesNoMemory(t *testing.T) {
	for _, list := range validContexts() {
		for _, id := range []int{1, 3, 50, impl.IdMax} {
			room := withRoom(list, impl.ContextMax)
			first, _ := impl.ContextsAdd(room, layer(id))
			second, _ := impl.ContextsAdd(room, layer(id))
			want := slices.Clone(second)
			overwrite(first, impl.Context{Id: -7, Kind: -7, Area: -7})
			if !slices.Equal(room, list) || !slices.Equal(second, want) {
				t.Fatalf("the result of ContextsAdd(%v, %d) shares memory", list, id)
			}
			if !isZero(behind(room)) {
				t.Fatalf("ContextsAdd(%v, %d) wrote behind the list: %v", list, id, behind(room))
			}
		}
	}
}

func TestContextsReadingChangesNothing(t *testing.T) {
	for _, list := range validContexts() {
		before := slices.Clone(list)
		impl.ContextsValid(list)
		impl.ContextsFind(list, 3)
		ids := impl.ContextsArea(list, 1)
		again := impl.ContextsArea(list, 1)
		want := slices.Clone(again)
		overwrite(ids, -7)
		if !slices.Equal(list, before) || !slices.Equal(again, want) {
			t.Errorf("%v became %v, and its area %v", before, list, again)
		}
	}
}
