package tests

import (
	"slices"
	"testing"
)

// without returns a list without the element at a place, in new memory.
func without[T any](list []T, i int) []T {
	return slices.Concat(list[:i], list[i+1:])
}

// overwrite writes a value to all memory that a list has, including its capacity.
func overwrite[T any](list []T, value T) {
	all := list[:cap(list)]
	for i := range all {
		all[i] = value
	}
}

// withRoom returns a copy of a list in memory that has further room, all of it zero.
func withRoom[T any](list []T, room int) []T {
	longer := make([]T, len(list), len(list)+room)
	copy(longer, list)
	return longer
}

// behind returns what stands in the room behind a list.
func behind[T any](list []T) []T {
	return list[len(list):cap(list)]
}

// isZero reports whether each element is a zero value.
func isZero[T comparable](list []T) bool {
	var zero T
	return !slices.ContainsFunc(list, func(x T) bool { return x != zero })
}

// sameRows reports whether two tables have equal rows.
func sameRows[T comparable](a, b [][]T) bool {
	return slices.EqualFunc(a, b, slices.Equal[[]T])
}

// cloneRows returns a table in new memory.
func cloneRows[T any](table [][]T) [][]T {
	var other [][]T
	for _, row := range table {
		other = append(other, slices.Clone(row))
	}
	return other
}

// checkSeparateRows overwrites each row of a table with values, and checks that it shares no memory with the other rows,
// nor with those of an equal table.
func checkSeparateRows[T comparable](t *testing.T, table, equal [][]T, values ...T) {
	t.Helper()
	want := cloneRows(equal)
	if !sameRows(table, equal) {
		t.Fatalf("the rows are %v, and then %v", table, equal)
	}
	for i, row := range table {
		for _, value := range values {
			overwrite(row, value)
			if !sameRows(table[i+1:], want[i+1:]) || !sameRows(table[:i], want[:i]) || !sameRows(equal, want) {
				t.Fatalf("row %d of %v shares memory", i, want)
			}
		}
		copy(row, want[i])
	}
	overwrite(table, nil)
	if !sameRows(equal, want) {
		t.Fatalf("two results with the rows %v share memory", want)
	}
}

// joinedRows returns rows that lie one behind the other in one memory, so that what is written behind a row changes the
// next one, and all of this memory. It ends with some room, and so does the table.
func joinedRows[T any](rows [][]T, room T) ([][]T, []T) {
	memory := append(slices.Concat(rows...), slices.Repeat([]T{room}, 10)...)
	joined := make([][]T, 0, len(rows)+5)
	used := 0
	for _, row := range rows {
		joined = append(joined, memory[used:used+len(row)])
		used += len(row)
	}
	return joined, memory
}

// unchangedRows calls a function with rows in joined memory, once for each value of the room behind them, and reports
// whether these are as before, and nothing was written behind them.
func unchangedRows[T comparable](rows [][]T, rooms []T, call func(rows [][]T)) bool {
	for _, room := range rooms {
		joined, memory := joinedRows(rows, room)
		old := slices.Clone(memory)
		call(joined)
		written := slices.ContainsFunc(behind(joined), func(row []T) bool { return row != nil })
		if !sameRows(joined, rows) || !slices.Equal(memory, old) || written {
			return false
		}
	}
	return true
}

// listsUpTo returns all lists of up to n elements that are chosen from some, each of them any number of times.
func listsUpTo[T any](elements []T, n int) [][]T {
	lists := [][]T{nil}
	for first := 0; len(lists[first]) < n; first++ {
		for _, x := range elements {
			lists = append(lists, append(slices.Clone(lists[first]), x))
		}
	}
	return lists
}
