package veils_test

import (
	"fmt"
	"math"
	"math/rand"
	"reflect"
	"slices"
	"testing"

	"cloche/api"
	"cloche/veils"
)

// tableOf makes a table with n rows of numbers that follow each other.
func tableOf(n int, numbers ...int) [][]int {
	table := [][]int{}
	for row := range slices.Chunk(numbers, len(numbers)/n) {
		table = append(table, slices.Clone(row))
	}
	return table
}

// squareOf has n rows and columns, and value(i, j) at each place, from 0 on.
func squareOf(n int, value func(i, j int) int) [][]int {
	table := make([][]int, n)
	for i := range table {
		for j := range n {
			table[i] = append(table[i], value(i, j))
		}
	}
	return table
}

func unit(n int) [][]int {
	return squareOf(n, func(i, j int) int {
		if i == j {
			return 1
		}
		return 0
	})
}

// backwards has the rows of a table read backwards.
func backwards(table [][]int) [][]int {
	return squareOf(len(table), func(i, j int) int { return table[i][len(table)-1-j] })
}

// across has the columns of a table as its rows.
func across(table [][]int) [][]int {
	return squareOf(len(table), func(i, j int) int { return table[j][i] })
}

func clone(table [][]int) [][]int {
	if table == nil {
		return nil
	}
	rows := make([][]int, len(table))
	for i := range table {
		rows[i] = slices.Clone(table[i])
	}
	return rows
}

func keyOf(table [][]int) string { return fmt.Sprint(table) }

func same(a, b [][]int) bool { return slices.EqualFunc(a, b, slices.Equal[[]int]) }

func compare(a, b [][]int) int { return slices.CompareFunc(a, b, slices.Compare[[]int]) }

var (
	cross = tableOf(3, 0, 1, 0, 1, -1, 1, 0, 1, 0)
	swap  = tableOf(3, 0, 1, 0, 1, 0, 0, 0, 0, 1)
	// diamond is the only veil of size 5 with four numbers -1, and none has more.
	diamond = tableOf(5, 0, 0, 1, 0, 0, 0, 1, -1, 1, 0, 1, -1, 1, -1, 1, 0, 1, -1, 1, 0, 0, 0, 1, 0, 0)
)

// all returns all veils of the sizes 1 to n.
func all(t *testing.T, n int) [][][]int {
	t.Helper()
	var list [][][]int
	for size := 1; size <= n; size++ {
		list = append(list, value[[][][]int](t)(veils.All(size))...)
	}
	return list
}

// knownBy has all veils, by what is read of them.
func knownBy(t *testing.T, read func(table [][]int) [][]int) map[string][][]int {
	t.Helper()
	known := make(map[string][][]int)
	for _, v := range all(t, 5) {
		known[keyOf(read(v))] = v
	}
	return known
}

// checkTold fails the test if tell does not find the one veil of which this is read.
func checkTold(t *testing.T, tell func(read [][]int) ([][]int, api.Errno), known map[string][][]int, read [][]int) {
	t.Helper()
	want := known[keyOf(read)]
	if want == nil {
		refused(t, api.ErrArg)(noneOf(tell(read)))
	} else if got := value[[][]int](t)(tell(read)); !same(got, want) {
		t.Error(read, got, want)
	}
}

// isVeil is by the words of the chapter.
func isVeil(table [][]int) bool {
	n := len(table)
	if n < 1 || n > 5 {
		return false
	}
	var lines [][]int
	for _, row := range table {
		if len(row) != n {
			return false
		}
		lines = append(lines, row)
	}
	for _, line := range append(lines, across(table)...) {
		numbers := slices.DeleteFunc(slices.Clone(line), func(number int) bool { return number == 0 })
		if len(numbers)%2 == 0 {
			return false
		}
		for k, number := range numbers {
			if k%2 == 0 && number != 1 || k%2 == 1 && number != -1 {
				return false
			}
		}
	}
	return true
}

func isZero(v any) bool {
	value := reflect.ValueOf(v)
	if value.Kind() == reflect.Array {
		for k := range value.Len() {
			if !isZero(value.Index(k).Interface()) {
				return false
			}
		}
		return true
	}
	return value.IsZero() || value.Kind() == reflect.Slice && value.Len() == 0
}

func refused(t *testing.T, want api.Errno) func(v any, e api.Errno) {
	return func(v any, e api.Errno) {
		t.Helper()
		if e != want || !isZero(v) {
			t.Error(v, e, want)
		}
	}
}

// value fails the test where there is an error.
func value[T any](t *testing.T) func(T, api.Errno) T {
	return func(v T, e api.Errno) T {
		t.Helper()
		if e != api.OK {
			t.Fatal(v, e)
		}
		return v
	}
}

func noneOf[T any](v T, e api.Errno) (any, api.Errno) { return v, e }

// two makes one value of two.
func two[T any](a, b T, e api.Errno) (any, api.Errno) { return [2]T{a, b}, e }

var noNumbers = []int{math.MinInt, -1 << 32, -2, -1, 6, 11, 1 << 32, 1<<32 + 1, math.MaxInt}

// noVeils are tables that are no veils.
func noVeils() [][][]int {
	tables := [][][]int{nil, {}, {nil}, {{}}, {{0}}, {{-1}}, {{2}}, {{1, 0}}, {{1}, {0}}, {{1}, nil}, {nil, {1}},
		{{1, 0}, {1, 0}}, {{1, 1}, {0, 0}}, {{2, -1}, {-1, 2}}, {{0, 1}, {1, -1}}, {{-1, 1}, {1, 0}}, {{1, -1}, {0, 1}}, {{1, 0}, {0}}, {{1, 0}, {0, 1, 0}}, {{1, 0, 0}, {0, 1}, {0, 0, 1}},
		unit(6), unit(100), make([][]int, 3), make([][]int, 5), make([][]int, 100000)}
	for n := 1; n <= 5; n++ {
		for i := range n {
			for j := range n {
				for _, number := range []int{math.MinInt, math.MinInt + 1, -1 << 32, -2, 2, 3, 1 << 32, 1<<32 + 1, math.MaxInt - 1, math.MaxInt} {
					table := unit(n)
					table[i][j] = number
					tables = append(tables, table)
				}
			}
			long, short := unit(n), unit(n)
			long[i] = append(long[i], 0)
			short[i] = short[i][:n-1]
			tables = append(tables, long, short, append(unit(n), nil), append(unit(n), make([]int, n)), unit(n)[:n-1])
		}
	}
	return tables
}

// allRefused fails the test if not all functions with a veil return ErrArg for what is
// none, whatever is asked of it.
func allRefused(t *testing.T, table [][]int) {
	t.Helper()
	no := refused(t, api.ErrArg)
	no(noneOf(veils.Heights(table)))
	no(noneOf(veils.Triangle(table)))
	no(noneOf(veils.Gyrate(table)))
	no(noneOf(veils.Pairing(table)))
	no(two(veils.Minus(table)))
	for _, number := range append([]int{0, 1, 2}, noNumbers...) {
		no(noneOf(veils.Turn(table, 1, number)))
		no(noneOf(veils.Turn(table, number, 1)))
	}
	for _, other := range [][][]int{table, nil, unit(1), unit(3), cross, diamond} {
		no(two(veils.Meet(table, other)))
		no(two(veils.Meet(other, table)))
	}
}

// The errors of all functions with what is no veil: ErrArg, also where ErrState would
// come later
func TestNoVeils(t *testing.T) {
	for _, table := range noVeils() {
		if veils.IsVeil(table) {
			t.Error(table)
		}
		allRefused(t, table)
	}
}

func TestIsVeilPlain(t *testing.T) {
	for _, table := range [][][]int{{{1}}, unit(2), unit(5), swap, cross, diamond, backwards(diamond)} {
		if !veils.IsVeil(table) {
			t.Error(table)
		}
	}
}

// tablesOf calls visit with all tables of size n with numbers from low to high.
func tablesOf(n, low, high int, visit func(table [][]int)) {
	numbers := high - low + 1
	many := 1
	for range n * n {
		many *= numbers
	}
	for code := range many {
		visit(squareOf(n, func(i, j int) int {
			number := code%numbers + low
			code /= numbers
			return number
		}))
	}
}

// IsVeil of all small tables of small numbers, and of veils in which something is
// changed
func TestIsVeil(t *testing.T) {
	check := func(table [][]int) {
		want := isVeil(table)
		if veils.IsVeil(table) != want {
			t.Error(table, want)
		}
	}
	tablesOf(1, -3, 3, check)
	tablesOf(2, -3, 3, check)
	tablesOf(3, -1, 1, check)
	r := rand.New(rand.NewSource(1))
	for _, v := range all(t, 5) {
		check(v)
		n := len(v)
		for range 20 {
			table := clone(v)
			for range 1 + r.Intn(4) {
				table[r.Intn(n)][r.Intn(n)] += r.Intn(3) - 1
			}
			check(table)
			a, b := r.Intn(n), r.Intn(n)
			table = clone(v)
			table[a], table[b] = table[b], table[a]
			check(table)
		}
	}
}
