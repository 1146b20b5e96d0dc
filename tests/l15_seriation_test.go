package tests

import (
	"math"
	"math/rand"
	"slices"
	"strings"
	"sync"
	"testing"

	"loop.example/excavation/impl"
)

// rowOf returns the row whose types are the digits of a word, so that the word "-" has none.
func rowOf(word string) []bool {
	var row []bool
	for _, kind := range "12345" {
		row = append(row, strings.ContainsRune(word, kind))
	}
	return row
}

// rowsOf returns the rows of the words of a text.
func rowsOf(text string) [][]bool {
	var rows [][]bool
	for _, word := range strings.Fields(text) {
		rows = append(rows, rowOf(word))
	}
	return rows
}

// kindsIn returns the number of types of a row.
func kindsIn(row []bool) int {
	n := 0
	for _, has := range row {
		if has {
			n++
		}
	}
	return n
}

// allRows returns each row once.
func allRows() [][]bool {
	return listsUpTo([]bool{false, true}, impl.TypeMax)[1<<impl.TypeMax-1:]
}

// randomRows returns n rows that have each type with a chance of one in some.
func randomRows(random *rand.Rand, n, some int) [][]bool {
	var rows [][]bool
	for range n {
		var row []bool
		for range impl.TypeMax {
			row = append(row, random.Intn(some) == 0)
		}
		rows = append(rows, row)
	}
	return rows
}

// stripedRows returns n rows that are serial: each type is in all rows from one place to another.
func stripedRows(random *rand.Rand, n int) [][]bool {
	rows := randomRows(random, n, math.MaxInt)
	for kind := range impl.TypeMax {
		first, last := random.Intn(n+1), random.Intn(n+1)
		for i := first; i < last; i++ {
			rows[i][kind] = true
		}
	}
	return rows
}

// taken returns rows in an order.
func taken(rows [][]bool, order []int) [][]bool {
	var other [][]bool
	for _, i := range order {
		other = append(other, slices.Clone(rows[i]))
	}
	return other
}

// oneChanged returns rows in new memory; one of them has a type that it did not have, or the other way around.
func oneChanged(random *rand.Rand, rows [][]bool) [][]bool {
	other := cloneRows(rows)
	row, kind := other[random.Intn(len(other))], random.Intn(impl.TypeMax)
	row[kind] = !row[kind]
	return other
}

// someRows returns rows of each number: with few types and with many, serial ones, those that are serial in another
// order, and those in which just one type is wrong then. They are the same in each run.
var someRows = sync.OnceValue(func() [][][]bool {
	random := rand.New(rand.NewSource(15))
	var lists [][][]bool
	for range 150 {
		for n := 1; n <= impl.RowMax; n++ {
			striped := stripedRows(random, n)
			mixed := taken(striped, random.Perm(n))
			lists = append(lists, striped, mixed, oneChanged(random, striped), oneChanged(random, mixed),
				randomRows(random, n, 2), randomRows(random, n, 4), randomRows(random, n, 8))
		}
	}
	return lists
})

// shortRows returns all lists of one or two rows, all of up to four that have three of the types at most, and all of up
// to RowMax that have two of them at most.
var shortRows = sync.OnceValue(func() [][][]bool {
	return slices.Concat(
		listsUpTo(allRows(), 2)[1:],
		listsUpTo(rowsOf("- 1 3 5 13 15 35 135"), 4)[1:],
		listsUpTo(rowsOf("- 2 4 24"), impl.RowMax)[1:],
	)
})

// validRows returns valid rows of each number.
func validRows() [][][]bool {
	lists := slices.Concat(shortRows(), someRows())
	for _, text := range slices.Concat(serialExamples(), notSerialExamples()) {
		lists = append(lists, rowsOf(text))
	}
	for text := range rowOrderExamples() {
		lists = append(lists, rowsOf(text))
	}
	return lists
}

// invalidRows returns invalid lists: no rows, too many, and rows with fewer or more types alone, in front of, between
// and behind others.
func invalidRows() [][][]bool {
	lists := [][][]bool{nil, {}}
	for _, n := range []int{6, 7, 12, 100} {
		for _, word := range []string{"-", "1", "12345"} {
			lists = append(lists, slices.Repeat([][]bool{rowOf(word)}, n))
		}
		lists = append(lists, make([][]bool, n))
	}
	for _, n := range []int{0, 1, 2, 3, 4, 6, 7, 10, 100} {
		for _, has := range []bool{true, false} {
			wrong := slices.Repeat([]bool{has}, n)
			for others := range impl.RowMax {
				for i := range others + 1 {
					lists = append(lists, slices.Insert(slices.Repeat([][]bool{rowOf("24")}, others), i, wrong))
				}
			}
			lists = append(lists, [][]bool{wrong, wrong}, slices.Repeat([][]bool{wrong}, impl.RowMax))
		}
	}
	// As many types together as one row or more have, but not in each row.
	return append(lists,
		[][]bool{make([]bool, 25)},
		[][]bool{make([]bool, 4), make([]bool, 6)},
		[][]bool{make([]bool, 6), make([]bool, 4), make([]bool, 5)},
		[][]bool{nil, rowOf("1")},
		[][]bool{rowOf("1"), nil},
		[][]bool{nil},
		slices.Insert(slices.Repeat([][]bool{rowOf("1")}, impl.RowMax), 2, nil),
	)
}

// expectedSerial reports whether rows are serial, found in another way: no row without a type is between two with it.
func expectedSerial(rows [][]bool) bool {
	for i := range rows {
		for j := range i {
			for k := range j {
				for kind := range 5 {
					if rows[i][kind] && rows[k][kind] && !rows[j][kind] {
						return false
					}
				}
			}
		}
	}
	return true
}

// serialOrders returns all orders in which rows are serial, the first one first.
func serialOrders(rows [][]bool) [][]int {
	return slices.DeleteFunc(permutations(numbersOf(len(rows), 0, 1)), func(order []int) bool {
		return !expectedSerial(taken(rows, order))
	})
}

// backOf returns the order that leads back from another one.
func backOf(order []int) []int {
	back := make([]int, len(order))
	for i, place := range order {
		back[place] = i
	}
	return back
}

// takenOf returns what RowsTake returns for valid arguments, for which it must not fail.
func takenOf(t *testing.T, rows [][]bool, order []int) [][]bool {
	t.Helper()
	got, ok := impl.RowsTake(rows, order)
	if !ok || len(got) != len(rows) {
		t.Fatalf("RowsTake(%v, %v) returned %v, %v", rows, order, got, ok)
	}
	return got
}

func TestRowConstants(t *testing.T) {
	if impl.RowMax != 5 {
		t.Errorf("RowMax is %d", impl.RowMax)
	}
}

func TestRowsValid(t *testing.T) {
	for _, rows := range validRows() {
		if !impl.RowsValid(rows) {
			t.Errorf("RowsValid(%v) is false", rows)
		}
	}
	for _, rows := range invalidRows() {
		if impl.RowsValid(rows) {
			t.Errorf("RowsValid(%v) is true", rows)
		}
	}
}

func TestRowsValidAtLimits(t *testing.T) {
	for n := range 10 {
		for kinds := range 12 {
			for _, has := range []bool{true, false} {
				rows := slices.Repeat([][]bool{slices.Repeat([]bool{has}, kinds)}, n)
				want := n >= 1 && n <= 5 && kinds == 5
				if impl.RowsValid(rows) != want || impl.RowsSerial(rows) != want {
					t.Errorf("RowsValid or RowsSerial of %d rows with %d types is %v", n, kinds, !want)
				}
				if order, ok := impl.RowsOrder(rows); ok != want || ok && !slices.Equal(order, numbersOf(n, 0, 1)) {
					t.Errorf("RowsOrder of %d rows with %d types returned %v, %v", n, kinds, order, ok)
				}
			}
		}
	}
}

// Promise 85: without any one of several rows the others stay valid; with one type less in any row they are not.
func TestRowsWithoutOneAndWithoutAType(t *testing.T) {
	for _, rows := range validRows() {
		for i, row := range rows {
			if rest := without(rows, i); impl.RowsValid(rest) != (len(rows) > 1) {
				t.Fatalf("RowsValid(%v) is %v", rest, len(rows) <= 1)
			}
			for kind := range row {
				shorter, longer := cloneRows(rows), cloneRows(rows)
				shorter[i] = without(row, kind)
				longer[i] = slices.Insert(slices.Clone(row), kind, row[kind])
				if impl.RowsValid(shorter) || impl.RowsValid(longer) {
					t.Fatalf("RowsValid(%v) or RowsValid(%v) is true", shorter, longer)
				}
			}
		}
		narrower := cloneRows(rows)
		for i, row := range narrower {
			narrower[i] = row[:impl.TypeMax-1]
		}
		if impl.RowsValid(narrower) {
			t.Fatalf("RowsValid(%v) is true", narrower)
		}
	}
}

// serialExamples returns rows that are serial, written out.
func serialExamples() []string {
	return []string{
		"1", "5", "-", "135", "12345",
		"- -", "1 1", "1 -", "- 1", "1 2", "12 23", "12345 -", "12345 12345",
		"- - -", "- 1 -", "1 - 2", "1 1 -", "- 1 1", "1 12 2", "12 12 2", "123 13 1", "13 123 12", "45 345 34",
		"- 1 1 -", "- - 3 3", "1 1 2 2", "1 12 12 2", "1 - - 2", "12 2 24 4",
		"- - - - -", "- - - 3 -", "3 - - - -", "- - - - 3", "3 - - - 4", "1 - 2 - 3",
		"1 1 1 1 1", "- 1 1 1 -", "- - 12345 - -", "1 1 2 2 3", "1 2 2 3 3", "1 2 3 4 -", "- 1 12 2 -",
		"1 2 3 4 5", "5 4 3 2 1", "12 23 34 45 5", "1 12 2 23 3", "1 13 3 23 2", "14 14 245 25 235",
		"1 12 123 1234 12345", "12345 1234 123 12 1", "12345 2345 345 45 5", "1 12 123 12 1", "15 14 13 12 1",
		"12345 12345 12345 12345 12345", "12345 12345 12345 12345 -", "- 12345 12345 12345 12345",
		"1234 12345 12345 12345 1234", "1234 2345 2345 2345 2345", "2345 2345 2345 2345 12345",
	}
}

// notSerialExamples returns valid rows that are not serial, written out.
func notSerialExamples() []string {
	return []string{
		"1 - 1", "2 - 2", "3 - 3", "4 - 4", "5 - 5", "12345 - 12345", "1 2 1", "1 2345 1", "1 2 12", "12 1 2",
		"12345 2345 12345", "12345 1345 12345", "12345 1245 12345", "12345 1235 12345", "12345 1234 12345",
		"1 - - 1", "1 1 - 1", "1 - 1 1", "1 - 1 -", "- 1 - 1", "1 2 1 2", "1 2 2 1", "12 2 14 4",
		"1 - - - 1", "1 1 - - 1", "1 - - 1 1", "1 1 - 1 1", "1 1 1 - 1", "1 - 1 1 1", "1 - 1 - 1", "- 1 - 1 -", "5 5 - 5 5",
		"1 2 3 4 1", "1 2 3 4 2", "1 2 3 4 3", "1 1 2 3 2", "1 2 1 2 1", "12 23 34 45 15", "1 12 2 23 13", "- 1 2 12 -",
		"123 12 1 12 123", "12345 2345 345 45 15", "12345 2345 345 145 5", "14 14 245 25 345", "15 14 13 12 15",
		"12345 12345 - 12345 12345", "12345 12345 12345 1234 12345", "1 2345 2345 2345 12345",
		"1234 12345 1234 12345 1234", "1234 1235 1245 1345 2345",
	}
}

func TestRowsSerialExamples(t *testing.T) {
	for _, text := range serialExamples() {
		if rows := rowsOf(text); !impl.RowsSerial(rows) {
			t.Errorf("%q: RowsSerial(%v) is false", text, rows)
		}
	}
	for _, text := range notSerialExamples() {
		if rows := rowsOf(text); impl.RowsSerial(rows) {
			t.Errorf("%q: RowsSerial(%v) is true", text, rows)
		}
	}
}

// Promise 78: exactly the rows without a type between two rows that have it are not serial.
func TestRowsSerial(t *testing.T) {
	serial, not := 0, 0
	for _, rows := range validRows() {
		want := expectedSerial(rows)
		if impl.RowsSerial(rows) != want {
			t.Fatalf("RowsSerial(%v) is %v", rows, !want)
		}
		if want && len(rows) > 2 {
			serial++
		}
		if !want {
			not++
		}
	}
	if serial < 1000 || not < 1000 {
		t.Errorf("only %d of three rows or more are serial, and %d are not", serial, not)
	}
}

// Promise 78: all lists of three rows.
func TestRowsSerialOfThreeRows(t *testing.T) {
	all := allRows()
	for _, first := range all {
		for _, second := range all {
			for _, third := range all {
				rows := [][]bool{first, second, third}
				if want := expectedSerial(rows); impl.RowsSerial(rows) != want {
					t.Fatalf("RowsSerial(%v) is %v", rows, !want)
				}
			}
		}
	}
}

// Promise 79: rows are as serial in the other direction.
func TestRowsSerialInTheOtherDirection(t *testing.T) {
	for _, rows := range validRows() {
		other := slices.Clone(rows)
		slices.Reverse(other)
		if impl.RowsSerial(rows) != impl.RowsSerial(other) {
			t.Fatalf("RowsSerial(%v) is %v, but not in the other direction", rows, impl.RowsSerial(rows))
		}
	}
}

// Rows are as serial, and in the same orders, if types are exchanged.
func TestRowsSerialOfExchangedTypes(t *testing.T) {
	random := rand.New(rand.NewSource(150))
	for _, rows := range validRows() {
		kinds := random.Perm(impl.TypeMax)
		other := cloneRows(rows)
		for i, row := range rows {
			for kind, place := range kinds {
				other[i][kind] = row[place]
			}
		}
		if impl.RowsSerial(rows) != impl.RowsSerial(other) {
			t.Fatalf("RowsSerial(%v) is %v, but that of %v is not", rows, impl.RowsSerial(rows), other)
		}
		want, ok := impl.RowsOrder(rows)
		if got, fine := impl.RowsOrder(other); ok != fine || !slices.Equal(got, want) {
			t.Fatalf("RowsOrder(%v) returned %v, but that of %v is %v", rows, want, other, got)
		}
	}
}

// No invalid rows are serial, have an order, or are taken in one.
func TestRowsOfInvalidArguments(t *testing.T) {
	for _, rows := range invalidRows() {
		if impl.RowsSerial(rows) {
			t.Errorf("RowsSerial(%v) is true", rows)
		}
		if got, ok := impl.RowsOrder(rows); ok || len(got) != 0 {
			t.Errorf("RowsOrder(%v) returned %v, %v", rows, got, ok)
		}
		for _, order := range [][]int{nil, {}, {0}, {0, 1}, {1, 0}, numbersOf(len(rows), 0, 1), numbersOf(len(rows), len(rows)-1, -1), numbersOf(5, 0, 1)} {
			if got, ok := impl.RowsTake(rows, order); ok || len(got) != 0 {
				t.Errorf("RowsTake(%v, %v) returned %v, %v", rows, order, got, ok)
			}
		}
	}
}

// rowOrderExample has the first order of rows, and in how many orders they are serial.
type rowOrderExample struct {
	order []int
	count int
}

// rowOrderExamples returns the cases that the document names, written out.
func rowOrderExamples() map[string]rowOrderExample {
	return map[string]rowOrderExample{
		// One row is serial in one order only; two or more are so in the other direction, too.
		"1":         {[]int{0}, 1},
		"-":         {[]int{0}, 1},
		"12345":     {[]int{0}, 1},
		"1 2":       {[]int{0, 1}, 2},
		"1 1":       {[]int{0, 1}, 2},
		"- 1":       {[]int{0, 1}, 2},
		"- -":       {[]int{0, 1}, 2},
		"1 2 12":    {[]int{0, 2, 1}, 2},
		"1 12 2":    {[]int{0, 1, 2}, 2},
		"12 1 2":    {[]int{1, 0, 2}, 2},
		"23 12 34":  {[]int{1, 0, 2}, 2},
		"34 23 1":   {[]int{0, 1, 2}, 4},
		"34 1 23":   {[]int{0, 2, 1}, 4},
		"1 2 3":     {[]int{0, 1, 2}, 6},
		"12 23 13":  {nil, 0},
		"123 12 13": {[]int{1, 0, 2}, 2},
		// Rows without types may come anywhere, but not between two rows with a type.
		"1 - 1":       {[]int{0, 2, 1}, 4},
		"- 1 1":       {[]int{0, 1, 2}, 4},
		"1 1 -":       {[]int{0, 1, 2}, 4},
		"- - -":       {[]int{0, 1, 2}, 6},
		"- 12 - 1 2":  {[]int{0, 2, 3, 1, 4}, 12},
		"- 1 - 1 -":   {[]int{0, 1, 3, 2, 4}, 48},
		"1 - - - 1":   {[]int{0, 4, 1, 2, 3}, 48},
		"1 2 - 1 2":   {[]int{0, 3, 1, 4, 2}, 24},
		"- - 4 - -":   {[]int{0, 1, 2, 3, 4}, 120},
		"- - - - -":   {[]int{0, 1, 2, 3, 4}, 120},
		"12 23 - 13":  {nil, 0},
		"- 12 23 13":  {nil, 0},
		"12 23 13 - ": {nil, 0},
		// Rows with all types, and equal rows.
		"12345 12345 12345":             {[]int{0, 1, 2}, 6},
		"12345 - 12345":                 {[]int{0, 2, 1}, 4},
		"12345 1 2":                     {[]int{1, 0, 2}, 2},
		"1 2 12345":                     {[]int{0, 2, 1}, 2},
		"1 2 3 12345":                   {nil, 0},
		"1 2 12345 -":                   {[]int{0, 2, 1, 3}, 4},
		"1 2 1 2":                       {[]int{0, 2, 1, 3}, 8},
		"1 2 2 1":                       {[]int{0, 3, 1, 2}, 8},
		"1 2 1 2 1":                     {[]int{0, 2, 4, 1, 3}, 24},
		"12 34 12 34 12":                {[]int{0, 2, 4, 1, 3}, 24},
		"12 1 12 2 12":                  {[]int{1, 0, 2, 4, 3}, 12},
		"12345 12345 12345 12345 12345": {[]int{0, 1, 2, 3, 4}, 120},
		// RowMax rows.
		"1 2 3 4 5":           {[]int{0, 1, 2, 3, 4}, 120},
		"5 4 3 2 1":           {[]int{0, 1, 2, 3, 4}, 120},
		"23 12 34 1 45":       {[]int{3, 1, 0, 2, 4}, 2},
		"45 34 23 12 1":       {[]int{0, 1, 2, 3, 4}, 2},
		"12 23 34 45 1":       {[]int{3, 2, 1, 0, 4}, 2},
		"12 23 34 45 15":      {nil, 0},
		"12 3 1 2 3":          {[]int{1, 4, 2, 0, 3}, 8},
		"123 1 3 2 -":         {nil, 0},
		"12 23 13 4 5":        {nil, 0},
		"12 13 14 15 1":       {[]int{0, 1, 2, 3, 4}, 120},
		"12 13 14 25 1":       {[]int{1, 2, 4, 0, 3}, 12},
		"12345 123 1 12 1234": {[]int{0, 4, 1, 3, 2}, 16},
		"1234 1235 1245 1345": {nil, 0},
	}
}

func TestRowsOrderExamples(t *testing.T) {
	for text, e := range rowOrderExamples() {
		rows := rowsOf(text)
		got, ok := impl.RowsOrder(rows)
		if ok != (e.count > 0) || !slices.Equal(got, e.order) {
			t.Errorf("%q: RowsOrder(%v) returned %v, %v, not %v", text, rows, got, ok, e.order)
		}
		count := 0
		for _, order := range permutations(numbersOf(len(rows), 0, 1)) {
			if impl.RowsSerial(takenOf(t, rows, order)) {
				count++
			}
		}
		if count != e.count {
			t.Errorf("%q: %v is serial in %d orders, not %d", text, rows, count, e.count)
		}
	}
}

// Promises 80 and 81: the rows are serial in the order, and in none before it; there is none if they are serial in none.
func TestRowsOrder(t *testing.T) {
	moved, none := 0, 0
	for _, rows := range validRows() {
		orders := serialOrders(rows)
		got, ok := impl.RowsOrder(rows)
		if ok != (len(orders) > 0) || ok && !slices.Equal(got, orders[0]) || !ok && len(got) != 0 {
			t.Fatalf("RowsOrder(%v) returned %v, %v, but it is serial in %v", rows, got, ok, orders)
		}
		switch {
		case !ok:
			none++
		case !impl.RowsSerial(takenOf(t, rows, got)):
			t.Fatalf("RowsOrder(%v) returned %v, which is not serial", rows, got)
		case !slices.IsSorted(got):
			moved++
		}
	}
	if moved < 1000 || none < 300 {
		t.Errorf("only %d rows are put in another order, and %d have none", moved, none)
	}
}

// Promise 81: if the rows are serial in any order, there is one that does not come behind it.
func TestRowsOrderIsTheFirst(t *testing.T) {
	later := 0
	for _, rows := range someRows() {
		first, ok := impl.RowsOrder(rows)
		for _, order := range permutations(numbersOf(len(rows), 0, 1)) {
			if !impl.RowsSerial(takenOf(t, rows, order)) {
				continue
			}
			if !ok || slices.Compare(first, order) > 0 {
				t.Fatalf("RowsOrder(%v) returned %v, %v, but %v is serial, too", rows, first, ok, order)
			}
			if !slices.Equal(first, order) {
				later++
			}
		}
	}
	if later < 5000 {
		t.Errorf("only %d orders come behind the first one", later)
	}
}

// Rows have an order exactly if they have one in each other order, with a row without types, or with one of them twice.
func TestRowsOrderOfFurtherRows(t *testing.T) {
	for _, rows := range someRows() {
		_, want := impl.RowsOrder(rows)
		for _, order := range permutations(numbersOf(len(rows), 0, 1)) {
			if got, ok := impl.RowsOrder(taken(rows, order)); ok != want {
				t.Fatalf("RowsOrder(%v) returned %v, and %v, %v in the order %v", rows, want, got, ok, order)
			}
		}
		if len(rows) == impl.RowMax {
			continue
		}
		for place := range len(rows) + 1 {
			for _, row := range append(slices.Clone(rows), rowOf("-")) {
				further := slices.Insert(slices.Clone(rows), place, row)
				if got, ok := impl.RowsOrder(further); ok != want {
					t.Fatalf("RowsOrder(%v) returned %v, and %v, %v for %v", rows, want, got, ok, further)
				}
			}
		}
	}
}

// Without any one of them, rows that have an order have one.
func TestRowsOrderOfFewerRows(t *testing.T) {
	for _, rows := range someRows() {
		_, ok := impl.RowsOrder(rows)
		for i := range rows {
			if _, fine := impl.RowsOrder(without(rows, i)); ok && len(rows) > 1 && !fine {
				t.Fatalf("RowsOrder(%v) succeeds, but not without row %d", rows, i)
			}
		}
	}
}

func TestRowsTakeExamples(t *testing.T) {
	for _, e := range []struct {
		text  string
		order []int
		want  string
	}{
		{"1", []int{0}, "1"},
		{"-", []int{0}, "-"},
		{"1 2", []int{0, 1}, "1 2"},
		{"1 2", []int{1, 0}, "2 1"},
		{"1 - 3", []int{1, 2, 0}, "- 3 1"},
		{"1 - 3", []int{2, 0, 1}, "3 1 -"},
		{"12345 - 3", []int{2, 1, 0}, "3 - 12345"},
		{"1 2 3 4 5", []int{0, 1, 2, 3, 4}, "1 2 3 4 5"},
		{"1 2 3 4 5", []int{4, 3, 2, 1, 0}, "5 4 3 2 1"},
		{"1 2 3 4 5", []int{1, 2, 3, 4, 0}, "2 3 4 5 1"},
		{"1 2 3 4 5", []int{4, 0, 1, 2, 3}, "5 1 2 3 4"},
		{"12 - 12 345 1", []int{3, 2, 4, 0, 1}, "345 12 1 12 -"},
		{"1 1 1 1 1", []int{2, 0, 4, 1, 3}, "1 1 1 1 1"},
	} {
		if got, ok := impl.RowsTake(rowsOf(e.text), e.order); !ok || !sameRows(got, rowsOf(e.want)) {
			t.Errorf("RowsTake of %q and %v returned %v, %v, not %q", e.text, e.order, got, ok, e.want)
		}
	}
}

// Promise 82: each row is that of the order, and the order that leads back leads back.
func TestRowsTake(t *testing.T) {
	random := rand.New(rand.NewSource(151))
	for _, rows := range validRows() {
		orders := [][]int{random.Perm(len(rows)), random.Perm(len(rows))}
		if random.Intn(10) == 0 {
			orders = permutations(numbersOf(len(rows), 0, 1))
		}
		for _, order := range orders {
			got := takenOf(t, rows, order)
			for i, place := range order {
				if !slices.Equal(got[i], rows[place]) {
					t.Fatalf("RowsTake(%v, %v) returned %v", rows, order, got)
				}
			}
			if back := takenOf(t, got, backOf(order)); !sameRows(back, rows) {
				t.Fatalf("RowsTake(%v, %v) returned %v, which leads back to %v", rows, order, got, back)
			}
		}
	}
}

// Of all short lists of numbers, exactly those are orders that have each index once.
func TestRowsTakeOfAllShortOrders(t *testing.T) {
	for n := 1; n <= impl.RowMax; n++ {
		rows := rowsOf("1 2 3 4 5")[:n]
		count := 0
		for _, order := range listsUpTo(numbersOf(n+2, -1, 1), min(n+1, impl.RowMax)) {
			sorted := slices.Sorted(slices.Values(order))
			want := slices.Equal(sorted, numbersOf(n, 0, 1))
			got, ok := impl.RowsTake(rows, order)
			if ok != want || !ok && len(got) != 0 {
				t.Fatalf("RowsTake(%v, %v) returned %v, %v", rows, order, got, ok)
			}
			if ok {
				count++
			}
		}
		if count != factorial(n) {
			t.Errorf("%d orders of %d rows are valid", count, n)
		}
	}
}

// Orders with too few, too many, repeated or missing indices, or with one out of range, take no rows.
func TestRowsTakeOfInvalidOrders(t *testing.T) {
	for _, rows := range validRows() {
		n := len(rows)
		order := numbersOf(n, 0, 1)
		wrong := [][]int{
			without(order, 0), without(order, n-1), slices.Concat(order, order), numbersOf(n+1, 0, 1), numbersOf(n, 1, 1),
			numbersOf(n, -1, 1), append(slices.Clone(order), 0), append(slices.Clone(order), n-1), append(slices.Clone(order), -1),
			nil, numbersOf(1000, 0, 1),
		}
		if n > 1 {
			wrong = append(wrong, numbersOf(n, 0, -1), slices.Repeat([]int{0}, n), slices.Repeat([]int{n - 1}, n))
		}
		for i := range order {
			for _, index := range []int{-1, -n, n, n + 1, n + 256, (i + 1) % n, 1 << 32, math.MinInt, math.MaxInt} {
				other := slices.Clone(order)
				other[i] = index
				if index != i {
					wrong = append(wrong, other)
				}
			}
		}
		for _, other := range wrong {
			if got, ok := impl.RowsTake(rows, other); ok || len(got) != 0 {
				t.Fatalf("RowsTake(%v, %v) returned %v, %v", rows, other, got, ok)
			}
		}
	}
}

func TestRowsAlikeExamples(t *testing.T) {
	for _, e := range []struct {
		a, b string
		want int
	}{
		{"-", "-", 0},
		{"1", "-", -1},
		{"5", "-", -1},
		{"12345", "-", -5},
		{"1", "1", 1},
		{"5", "5", 1},
		{"1", "2", -2},
		{"4", "5", -2},
		{"12", "1", 0},
		{"12", "2", 0},
		{"12", "23", -1},
		{"12", "12", 2},
		{"12", "34", -4},
		{"12", "345", -5},
		{"123", "12", 1},
		{"123", "234", 0},
		{"123", "345", -3},
		{"1234", "1235", 1},
		{"1234", "2345", 1},
		{"12345", "1", -3},
		{"12345", "12", -1},
		{"12345", "123", 1},
		{"12345", "1234", 3},
		{"12345", "12345", 5},
		{"135", "24", -5},
		{"135", "135", 3},
	} {
		if got := impl.RowsAlike(rowOf(e.a), rowOf(e.b)); got != e.want {
			t.Errorf("RowsAlike of %q and %q is %d, not %d", e.a, e.b, got, e.want)
		}
		if got := impl.RowsAlike(rowOf(e.b), rowOf(e.a)); got != e.want {
			t.Errorf("RowsAlike of %q and %q is %d, not %d", e.b, e.a, got, e.want)
		}
	}
}

// All two rows are alike by the types of both and the types of each, counted in another way.
func TestRowsAlike(t *testing.T) {
	all := allRows()
	if len(all) != 32 {
		t.Fatalf("there are %d rows", len(all))
	}
	for _, a := range all {
		for _, b := range all {
			both := 0
			for kind := range a {
				if a[kind] && b[kind] {
					both++
				}
			}
			// Those that both have are counted with each of the two, and so taken off twice.
			if got, want := impl.RowsAlike(a, b), 3*both-kindsIn(a)-kindsIn(b); got != want {
				t.Errorf("RowsAlike(%v, %v) is %d, not %d", a, b, got, want)
			}
		}
	}
}

// Promises 83 and 84: it is the same for both rows exchanged, at most that of each row and itself, which is the number
// of its types, and as much as for both exactly if they are equal.
func TestRowsAlikeOfBothRows(t *testing.T) {
	for _, a := range allRows() {
		if got := impl.RowsAlike(a, slices.Clone(a)); got != kindsIn(a) {
			t.Errorf("RowsAlike of %v and itself is %d", a, got)
		}
		for _, b := range allRows() {
			got := impl.RowsAlike(a, b)
			if got != impl.RowsAlike(b, a) {
				t.Errorf("RowsAlike(%v, %v) is %d, but %d if they are exchanged", a, b, got, impl.RowsAlike(b, a))
			}
			if got > impl.RowsAlike(a, a) || got > impl.RowsAlike(b, b) {
				t.Errorf("RowsAlike(%v, %v) is %d, more than for one of them and itself", a, b, got)
			}
			if equal := got == kindsIn(a) && got == kindsIn(b); equal != slices.Equal(a, b) {
				t.Errorf("RowsAlike(%v, %v) is %d, with %d and %d types", a, b, got, kindsIn(a), kindsIn(b))
			}
		}
	}
}

// Rows with fewer or more types are not compared, even if both have the same types, or one of them has none.
func TestRowsAlikeOfInvalidRows(t *testing.T) {
	for n := range 12 {
		for m := range 12 {
			for _, has := range []bool{true, false} {
				for _, other := range []bool{true, false} {
					a, b := slices.Repeat([]bool{has}, n), slices.Repeat([]bool{other}, m)
					if got := impl.RowsAlike(a, b); (got == -99) != (n != 5 || m != 5) {
						t.Errorf("RowsAlike(%v, %v) is %d", a, b, got)
					}
				}
			}
		}
	}
	for _, a := range allRows() {
		for _, b := range [][]bool{nil, {}, a[:4], append(slices.Clone(a), false), append(slices.Clone(a), true), slices.Repeat(a, 2)} {
			if x, y := impl.RowsAlike(a, b), impl.RowsAlike(b, a); x != -99 || y != -99 {
				t.Errorf("RowsAlike of %v and %v is %d and %d", a, b, x, y)
			}
		}
	}
	if got := impl.RowsAlike(nil, nil); got != -99 {
		t.Errorf("RowsAlike(nil, nil) is %d", got)
	}
}

// rowMemoryCases returns valid and invalid rows.
func rowMemoryCases() [][][]bool {
	return append(validRows(), invalidRows()...)
}

// RowsValid, RowsSerial, RowsAlike and RowsOrder change no argument, and orders share no memory.
func TestRowsOrderSharesNoMemory(t *testing.T) {
	for _, rows := range rowMemoryCases() {
		if !unchangedRows(rows, []bool{true, false}, func(rows [][]bool) {
			impl.RowsValid(rows)
			impl.RowsSerial(rows)
			for i := range rows {
				impl.RowsAlike(rows[i], rows[0])
			}
			first, ok := impl.RowsOrder(rows)
			second, again := impl.RowsOrder(rows)
			want := slices.Clone(second)
			if ok != again || !slices.Equal(first, second) {
				t.Fatalf("RowsOrder(%v) returned %v, and then %v", rows, first, second)
			}
			overwrite(first, -7)
			if !slices.Equal(second, want) {
				t.Fatalf("RowsOrder(%v): two results share memory", rows)
			}
		}) {
			t.Fatalf("%v are changed", rows)
		}
	}
}

// The rows of RowsTake share no memory with each other, also not behind their ends, nor with an argument or another result.
func TestRowsTakeSharesNoMemory(t *testing.T) {
	random := rand.New(rand.NewSource(152))
	for _, rows := range rowMemoryCases() {
		order := random.Perm(len(rows))
		memory := append(slices.Clone(order), -7, -7)
		if !unchangedRows(rows, []bool{true, false}, func(rows [][]bool) {
			first, _ := impl.RowsTake(rows, memory[:len(order)])
			second, _ := impl.RowsTake(rows, memory[:len(order)])
			checkSeparateRows(t, first, second, true, false)
		}) {
			t.Fatalf("RowsTake(%v, %v) changes the rows, or shares memory with them", rows, order)
		}
		if !slices.Equal(memory, append(slices.Clone(order), -7, -7)) {
			t.Fatalf("RowsTake(%v, %v) changes the order, or writes behind it", rows, order)
		}
	}
}

// The same row several times is taken as separate rows.
func TestRowsTakeOfOneRowSeveralTimes(t *testing.T) {
	for _, row := range allRows() {
		for n := 1; n <= impl.RowMax; n++ {
			rows, order := slices.Repeat([][]bool{row}, n), numbersOf(n, 0, 1)
			checkSeparateRows(t, takenOf(t, rows, order), takenOf(t, rows, order), true, false)
		}
	}
}
