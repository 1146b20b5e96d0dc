package tests

import (
	"math"
	"regexp"
	"slices"
	"strconv"
	"strings"
	"testing"

	"loop.example/excavation/impl"
)

// above is the relation that a lies above b.
func above(a, b int) impl.Rel {
	return impl.Rel{A: a, B: b, Kind: impl.RelAbove}
}

// same is the relation that a and b are the same.
func same(a, b int) impl.Rel {
	return impl.Rel{A: a, B: b, Kind: impl.RelEqual}
}

// allRels returns every valid relation, in the order of the document.
func allRels() []impl.Rel {
	var all []impl.Rel
	for a := 1; a <= 99; a++ {
		for b := 1; b <= 99; b++ {
			if a != b {
				all = append(all, above(a, b))
			}
			if a < b {
				all = append(all, same(a, b))
			}
		}
	}
	return all
}

// relsOf returns n relations, in order, whose places among all valid ones begin with first and differ by step.
func relsOf(all []impl.Rel, n, first, step int) []impl.Rel {
	var list []impl.Rel
	for i := range n {
		list = append(list, all[first+i*step])
	}
	return list
}

// validRels returns valid relations of each number: the first ones, the last ones, near ones and far ones.
func validRels() [][]impl.Rel {
	all := allRels()
	lists := [][]impl.Rel{nil, {}, {above(1, 2), same(1, 2), above(2, 1)}, {above(3, 99), above(4, 1)}}
	for n := 1; n <= impl.RelMax; n++ {
		lists = append(lists,
			relsOf(all, n, 0, 1),
			relsOf(all, n, len(all)-n, 1),
			relsOf(all, n, 190, 3),
			relsOf(all, n, 7, 479),
		)
	}
	return lists
}

// notRels returns invalid relations, by what is wrong with them.
func notRels() map[string]impl.Rel {
	return map[string]impl.Rel{
		"zero value":             {},
		"first 0":                above(0, 5),
		"first -1":               above(-1, 5),
		"first 100":              above(100, 5),
		"least first":            above(math.MinInt, 5),
		"greatest first":         above(math.MaxInt, 5),
		"second 0":               above(5, 0),
		"second -1":              above(5, -1),
		"second 100":             above(5, 100),
		"least second":           above(5, math.MinInt),
		"greatest second":        above(5, math.MaxInt),
		"above itself":           above(7, 7),
		"equal to itself":        same(7, 7),
		"equal in wrong order":   same(8, 7),
		"equal, first 0":         same(0, 7),
		"equal, second 100":      same(7, 100),
		"equal, greatest second": same(7, math.MaxInt),
		"kind 0":                 {A: 7, B: 8, Kind: 0},
		"kind 3":                 {A: 7, B: 8, Kind: 3},
		"kind -1":                {A: 7, B: 8, Kind: -1},
		"least kind":             {A: 7, B: 8, Kind: math.MinInt},
		"greatest kind":          {A: 7, B: 8, Kind: math.MaxInt},
	}
}

// invalidRels returns invalid lists, by what is wrong with them.
func invalidRels() map[string][]impl.Rel {
	all := allRels()
	lists := map[string][]impl.Rel{
		"twice":                {above(5, 6), above(5, 6)},
		"equality twice":       {same(5, 6), same(5, 6)},
		"descending by A":      {above(6, 7), above(5, 8)},
		"descending by B":      {above(5, 7), above(5, 6)},
		"descending by kind":   {same(5, 6), above(5, 6)},
		"the last too early":   {above(5, 6), above(5, 7), same(5, 6)},
		"the first too late":   {above(9, 1), above(5, 6), above(5, 7)},
		"one too many":         relsOf(all, impl.RelMax+1, 0, 1),
		"one too many, far":    relsOf(all, impl.RelMax+1, 3, 300),
		"all of them":          all,
		"equal in both ways":   {same(5, 6), same(6, 5)},
		"invalid at its end":   {above(5, 6), above(6, 6)},
		"invalid in the midst": {above(5, 6), {A: 6, B: 7, Kind: 3}, above(7, 8)},
	}
	for name, r := range notRels() {
		lists[name] = []impl.Rel{r}
	}
	return lists
}

// relsNear returns relations to be added to a list: its own ones, their neighbours and some from everywhere.
func relsNear(all, list []impl.Rel) []impl.Rel {
	var near []impl.Rel
	for i := 0; i < len(all); i += 331 {
		near = append(near, all[i])
	}
	for _, r := range list {
		i := slices.Index(all, r)
		near = append(near, all[max(i-1, 0):min(i+2, len(all))]...)
	}
	return append(near, all[0], all[len(all)-1])
}

func TestRelationConstants(t *testing.T) {
	if impl.RelMax != 30 || impl.RelAbove != 1 || impl.RelEqual != 2 {
		t.Errorf("the constants are %d, %d, %d", impl.RelMax, impl.RelAbove, impl.RelEqual)
	}
}

func TestRelsValid(t *testing.T) {
	for _, list := range validRels() {
		if !impl.RelsValid(list) {
			t.Errorf("RelsValid(%v) is false", list)
		}
	}
	for name, list := range invalidRels() {
		if impl.RelsValid(list) {
			t.Errorf("%s: RelsValid(%v) is true", name, list)
		}
	}
}

func TestRelsValidForEachRelation(t *testing.T) {
	for a := -1; a <= 101; a++ {
		for b := -1; b <= 101; b++ {
			for kind := -1; kind <= 4; kind++ {
				near := a >= 1 && a <= 99 && b >= 1 && b <= 99
				want := near && (kind == 1 && a != b || kind == 2 && a < b)
				if r := (impl.Rel{A: a, B: b, Kind: kind}); impl.RelsValid([]impl.Rel{r}) != want {
					t.Errorf("RelsValid of %v alone is %v", r, !want)
				}
			}
		}
	}
}

func TestRelsValidForEachPair(t *testing.T) {
	some := []impl.Rel{
		above(1, 2), same(1, 2), above(1, 3), same(1, 99), above(2, 1), above(2, 3), same(2, 3), above(3, 1),
		above(10, 2), above(98, 99), same(98, 99), above(99, 1), above(99, 98),
	}
	for i, r := range some {
		for j, s := range some {
			if got := impl.RelsValid([]impl.Rel{r, s}); got != (i < j) {
				t.Errorf("RelsValid of %v, %v is %v", r, s, got)
			}
		}
	}
}

// Promises 8 and 9: the relation is at its place, comes away again, and cannot be added twice.
func TestRelsAdd(t *testing.T) {
	all := allRels()
	for _, list := range validRels() {
		for _, r := range relsNear(all, list) {
			got, ok := impl.RelsAdd(list, r)
			if want := !slices.Contains(list, r) && len(list) < impl.RelMax; ok != want {
				t.Fatalf("RelsAdd(%v, %v) returned %v", list, r, ok)
			}
			if !ok {
				if !slices.Equal(got, list) {
					t.Fatalf("RelsAdd(%v, %v) failed and returned %v", list, r, got)
				}
				continue
			}
			if !impl.RelsValid(got) || len(got) != len(list)+1 || !slices.Contains(got, r) {
				t.Fatalf("RelsAdd(%v, %v) returned %v", list, r, got)
			}
			if back, ok := impl.RelsDrop(got, r); !ok || !slices.Equal(back, list) {
				t.Fatalf("RelsDrop(%v, %v) returned %v, %v", got, r, back, ok)
			}
			if again, ok := impl.RelsAdd(got, r); ok || !slices.Equal(again, got) {
				t.Fatalf("RelsAdd(%v, %v) returned %v, %v", got, r, again, ok)
			}
		}
	}
}

// Promise 9: two relations of the same contexts are different ones, in the other direction and of the other kind.
func TestRelsAddOfSameContexts(t *testing.T) {
	list := []impl.Rel{}
	for _, r := range []impl.Rel{above(6, 5), same(5, 6), above(5, 6)} {
		var ok bool
		if list, ok = impl.RelsAdd(list, r); !ok {
			t.Fatalf("RelsAdd of %v returned %v, false", r, list)
		}
	}
	if want := []impl.Rel{above(5, 6), same(5, 6), above(6, 5)}; !slices.Equal(list, want) {
		t.Errorf("adding one after the other returned %v", list)
	}
}

// A list of RelMax relations has no room, but for a relation that takes the place of one that was dropped.
func TestRelsAddAtLimit(t *testing.T) {
	full := relsOf(allRels(), impl.RelMax, 7, 479)
	if got, ok := impl.RelsAdd(full, above(99, 98)); ok || !slices.Equal(got, full) {
		t.Errorf("RelsAdd to RelMax relations returned %v, %v", got, ok)
	}
	fewer, _ := impl.RelsDrop(full, full[3])
	if got, ok := impl.RelsAdd(fewer, above(99, 98)); !ok || len(got) != impl.RelMax || got[impl.RelMax-1] != above(99, 98) {
		t.Errorf("RelsAdd to one less than RelMax returned %v, %v", got, ok)
	}
}

// Promise 10: a relation that was dropped is not there any more, and can be added again.
func TestRelsDrop(t *testing.T) {
	all := allRels()
	for _, list := range validRels() {
		for _, r := range relsNear(all, list) {
			got, ok := impl.RelsDrop(list, r)
			i := slices.Index(list, r)
			if ok != (i >= 0) {
				t.Fatalf("RelsDrop(%v, %v) returned %v", list, r, ok)
			}
			if !ok {
				if !slices.Equal(got, list) {
					t.Fatalf("RelsDrop(%v, %v) failed and returned %v", list, r, got)
				}
				continue
			}
			if !slices.Equal(got, without(list, i)) {
				t.Fatalf("RelsDrop(%v, %v) returned %v", list, r, got)
			}
			if again, ok := impl.RelsDrop(got, r); ok || !slices.Equal(again, got) {
				t.Fatalf("RelsDrop(%v, %v) returned %v, %v", got, r, again, ok)
			}
			if back, ok := impl.RelsAdd(got, r); !ok || !slices.Equal(back, list) {
				t.Fatalf("RelsAdd(%v, %v) returned %v, %v", got, r, back, ok)
			}
		}
	}
}

// Promise 11: the order in which relations are added does not matter.
func TestRelsAddInAnyOrder(t *testing.T) {
	for _, list := range validRels() {
		// 7 and 11 have no factor in common with most lengths, and then visit each place once.
		for _, step := range []int{-1, 1, 7, 11} {
			var got []impl.Rel
			for i := range list {
				got, _ = impl.RelsAdd(got, list[placeOfStep(i, step, len(list))])
			}
			if (step*step == 1 || len(list)%step != 0) && !slices.Equal(got, list) {
				t.Errorf("adding %v in steps of %d returned %v", list, step, got)
			}
		}
	}
}

// placeOfStep returns the place of the i-th step around n places; in steps of -1, it begins with the last one.
func placeOfStep(i, step, n int) int {
	if step < 0 {
		return n - 1 - i
	}
	return i * step % n
}

// Invalid arguments are checked first: neither a relation that is there nor a lack of room brings the list back.
func TestRelsAddOfInvalidArguments(t *testing.T) {
	for name, list := range invalidRels() {
		for _, r := range append([]impl.Rel{above(1, 2), above(5, 6), above(99, 98)}, list[:min(len(list), 3)]...) {
			if got, ok := impl.RelsAdd(list, r); ok || len(got) != 0 {
				t.Errorf("%s: RelsAdd(%v, %v) returned %v, %v", name, list, r, got, ok)
			}
		}
	}
	for name, r := range notRels() {
		for _, list := range validRels() {
			if got, ok := impl.RelsAdd(list, r); ok || len(got) != 0 {
				t.Errorf("%s: RelsAdd(%v, %v) returned %v, %v", name, list, r, got, ok)
			}
		}
	}
}

// An invalid relation is not there, so that the relations are returned unchanged.
func TestRelsDropOfInvalidArguments(t *testing.T) {
	for name, list := range invalidRels() {
		for _, r := range append([]impl.Rel{above(1, 2), above(5, 6), above(99, 98)}, list[:min(len(list), 3)]...) {
			if got, ok := impl.RelsDrop(list, r); ok || len(got) != 0 {
				t.Errorf("%s: RelsDrop(%v, %v) returned %v, %v", name, list, r, got, ok)
			}
		}
	}
	for name, r := range notRels() {
		for _, list := range validRels() {
			if got, ok := impl.RelsDrop(list, r); ok || !slices.Equal(got, list) {
				t.Errorf("%s: RelsDrop(%v, %v) returned %v, %v", name, list, r, got, ok)
			}
		}
	}
}

func TestRelsText(t *testing.T) {
	texts := map[string][]impl.Rel{
		"":                nil,
		"1>2":             {above(1, 2)},
		"1=2":             {same(1, 2)},
		"99>1":            {above(99, 1)},
		"1>99":            {above(1, 99)},
		"98=99":           {same(98, 99)},
		"1>2 1=2 2>1":     {above(1, 2), same(1, 2), above(2, 1)},
		"2>10 10>2 10=11": {above(2, 10), above(10, 2), same(10, 11)},
	}
	for text, list := range texts {
		if got := impl.RelsText(list); got != text {
			t.Errorf("RelsText(%v) returned %q", list, got)
		}
		if got, ok := impl.RelsParse(text); !ok || !slices.Equal(got, list) {
			t.Errorf("RelsParse(%q) returned %v, %v", text, got, ok)
		}
	}
	for name, list := range invalidRels() {
		if got := impl.RelsText(list); got != "" {
			t.Errorf("%s: RelsText(%v) returned %q", name, list, got)
		}
	}
}

// Promises 12 and 14: the text leads back to the relations, but not with a blank in front or behind.
func TestRelsParseOfRelsText(t *testing.T) {
	for _, list := range validRels() {
		text := impl.RelsText(list)
		if got, ok := impl.RelsParse(text); !ok || !slices.Equal(got, list) {
			t.Errorf("RelsParse(%q) returned %v, %v", text, got, ok)
		}
		for _, longer := range []string{text + " ", " " + text, " " + text + " ", text + "  "} {
			if got, ok := impl.RelsParse(longer); ok || len(got) != 0 {
				t.Errorf("RelsParse(%q) returned %v, %v", longer, got, ok)
			}
		}
	}
	for _, r := range allRels() {
		text := impl.RelsText([]impl.Rel{r})
		if got, ok := impl.RelsParse(text); !ok || !slices.Equal(got, []impl.Rel{r}) {
			t.Errorf("RelsParse(%q) returned %v, %v", text, got, ok)
		}
	}
}

var textOfRels = regexp.MustCompile(`^[1-9][0-9]?[>=][1-9][0-9]?( [1-9][0-9]?[>=][1-9][0-9]?)*$`)

// expectedRels returns what RelsParse has to return, found in another way: by a pattern, and by the order of all relations.
func expectedRels(all []impl.Rel, text string) ([]impl.Rel, bool) {
	if text == "" {
		return nil, true
	}
	if !textOfRels.MatchString(text) {
		return nil, false
	}
	var list []impl.Rel
	last := -1
	for _, part := range strings.Split(text, " ") {
		i := strings.IndexAny(part, ">=")
		a, _ := strconv.Atoi(part[:i])
		b, _ := strconv.Atoi(part[i+1:])
		r := impl.Rel{A: a, B: b, Kind: 1 + strings.Index(">=", part[i:i+1])}
		place := slices.Index(all, r)
		if place <= last {
			return nil, false
		}
		last = place
		list = append(list, r)
	}
	return list, len(list) <= impl.RelMax
}

// checkParse compares RelsParse with what is expected, and with RelsText if it succeeds.
func checkParse(t *testing.T, all []impl.Rel, text string) {
	t.Helper()
	want, fine := expectedRels(all, text)
	if !fine {
		want = nil
	}
	got, ok := impl.RelsParse(text)
	if ok != fine || !slices.Equal(got, want) {
		t.Fatalf("RelsParse(%q) returned %v, %v", text, got, ok)
	}
	if ok && impl.RelsText(got) != text {
		t.Fatalf("RelsText(%v) is not %q", got, text)
	}
}

// Promise 13, for all short texts of these characters.
func TestRelsParseOfShortTexts(t *testing.T) {
	all := allRels()
	texts := []string{""}
	for range 5 {
		var longer []string
		for _, text := range texts {
			checkParse(t, all, text)
			for _, c := range "0129 >=+-" {
				longer = append(longer, text+string(c))
			}
		}
		texts = longer
	}
	for _, text := range texts {
		checkParse(t, all, text)
	}
}

// Promises 13 and 14, for texts that differ in one character from that of relations.
func TestRelsParseOfNearTexts(t *testing.T) {
	all := allRels()
	for i, list := range validRels() {
		if i%11 != 0 && len(list) > 2 {
			continue
		}
		text := impl.RelsText(list)
		for p := range len(text) + 1 {
			if p < len(text) {
				checkParse(t, all, text[:p]+text[p+1:])
			}
			for _, c := range "0159 >=+-,_\t\n\x00\u00a0" {
				checkParse(t, all, text[:p]+string(c)+text[p:])
				if p < len(text) {
					checkParse(t, all, text[:p]+string(c)+text[p+1:])
				}
			}
		}
	}
}

func TestRelsParseOfOtherTexts(t *testing.T) {
	texts := []string{
		" ", "  ", ">", "=", "1", "1>", ">2", "1>2>3", "1=2=3", "1=>2", "1>=2", "1<2", "1 > 2", "1> 2", "1>2  2>3",
		"01>2", "1>02", "+1>2", "1>+2", "-1>2", "1>-2", "1.0>2", "0x1>2", "1_0>2", "a>b", "1>2\n", "\t1>2", "1>2,2>3",
		"1>2\x00", "\xff", "1>\xff", "0>1", "1>0", "100>1", "1>100", "7>7", "7=7", "8=7", "1>2 1>2", "2>3 1>2", "1=2 1>2",
		"99999999999999999999>1", "1>99999999999999999999", "18446744073709551617>2", "-9223372036854775808>1",
		"1>2 18446744073709551618>3", "1>2 x", "x 1>2", "1>2 2>3 ", "１>２", "1≥2",
		strings.Repeat("9", 5000) + ">1", strings.Repeat(" ", 5000), strings.Repeat("1>2 ", 5000),
	}
	for _, text := range texts {
		if got, ok := impl.RelsParse(text); ok || len(got) != 0 {
			t.Errorf("RelsParse(%q) returned %v, %v", text, got, ok)
		}
	}
}

// RelMax relations have a text, and one more has none.
func TestRelsParseAtLimit(t *testing.T) {
	full := relsOf(allRels(), impl.RelMax, 0, 2)
	text := impl.RelsText(full)
	if got, ok := impl.RelsParse(text); !ok || !slices.Equal(got, full) {
		t.Errorf("RelsParse(%q) returned %v, %v", text, got, ok)
	}
	if got, ok := impl.RelsParse(text + " 99>98"); ok || len(got) != 0 {
		t.Errorf("RelsParse of one too many returned %v, %v", got, ok)
	}
}

// Promise 15: without any one relation they stay valid; with one twice they are not.
func TestRelsWithoutOneAndWithOneTwice(t *testing.T) {
	for _, list := range validRels() {
		for i, r := range list {
			if rest := without(list, i); !impl.RelsValid(rest) {
				t.Errorf("RelsValid(%v) is false", rest)
			}
			for place := range len(list) + 1 {
				if twice := slices.Insert(slices.Clone(list), place, r); impl.RelsValid(twice) {
					t.Errorf("RelsValid(%v) is true", twice)
				}
			}
		}
	}
}

// Promise 16: an equality is valid with the lesser number first only, a relation above in both directions.
func TestRelsAddOfExchangedContexts(t *testing.T) {
	for a := 1; a <= 99; a++ {
		for b := a + 1; b <= 99; b++ {
			if got, ok := impl.RelsAdd(nil, same(a, b)); !ok || !slices.Equal(got, []impl.Rel{same(a, b)}) {
				t.Errorf("RelsAdd of %d=%d returned %v, %v", a, b, got, ok)
			}
			if got, ok := impl.RelsAdd(nil, same(b, a)); ok || len(got) != 0 {
				t.Errorf("RelsAdd of %d=%d returned %v, %v", b, a, got, ok)
			}
			if got, ok := impl.RelsAdd(nil, above(b, a)); !ok || !slices.Equal(got, []impl.Rel{above(b, a)}) {
				t.Errorf("RelsAdd of %d>%d returned %v, %v", b, a, got, ok)
			}
		}
	}
}

// Results share no memory with arguments or other results, also where a relation would fit behind the argument.
func TestRelsChangesShareNoMemory(t *testing.T) {
	changes := map[string]func([]impl.Rel, impl.Rel) ([]impl.Rel, bool){"RelsAdd": impl.RelsAdd, "RelsDrop": impl.RelsDrop}
	all := allRels()
	for name, change := range changes {
		for _, list := range validRels() {
			for _, r := range append([]impl.Rel{all[0], all[300], above(99, 98), {}}, list...) {
				room := withRoom(list, impl.RelMax)
				first, _ := change(room, r)
				second, _ := change(room, r)
				want := slices.Clone(second)
				overwrite(first, impl.Rel{A: -7, B: -7, Kind: -7})
				if !slices.Equal(room, list) || !slices.Equal(second, want) || !isZero(behind(room)) {
					t.Fatalf("%s(%v, %v) shares memory", name, list, r)
				}
			}
		}
	}
}

func TestRelsReadingChangesNothing(t *testing.T) {
	for _, list := range validRels() {
		before := slices.Clone(list)
		impl.RelsValid(list)
		text := impl.RelsText(list)
		first, _ := impl.RelsParse(text)
		second, _ := impl.RelsParse(text)
		overwrite(first, impl.Rel{A: -7, B: -7, Kind: -7})
		if !slices.Equal(list, before) || !slices.Equal(second, before) {
			t.Errorf("%v became %v, and was read as %v", before, list, second)
		}
	}
}
