package veils_test

import (
	"math"
	"math/rand"
	"slices"
	"testing"

	"cloche/api"
	"cloche/veils"
)

// lines are all rows of n numbers that are -1, 0 or 1.
func lines(n int) [][]int {
	list := [][]int{nil}
	for range n {
		var longer [][]int
		for _, line := range list {
			for number := -1; number <= 1; number++ {
				longer = append(longer, append(append([]int{}, line...), number))
			}
		}
		list = longer
	}
	return list
}

// P9.1: all tables of up to three rows, and all tables of up to five rows whose lines
// begin as in a veil, are looked at in their order.
func TestAll(t *testing.T) {
	for n := 1; n <= 5; n++ {
		var want [][][]int
		var table [][]int
		rows := lines(n)
		if n > 3 {
			rows = slices.DeleteFunc(rows, func(row []int) bool { return !begins(row) })
		}
		var fill func()
		fill = func() {
			if len(table) == n {
				if isVeil(table) {
					want = append(want, clone(table))
				}
				return
			}
			for _, row := range rows {
				table = append(table, row)
				if n <= 3 || columnsBegin(table) {
					fill()
				}
				table = table[:len(table)-1]
			}
		}
		fill()
		got := value[[][][]int](t)(veils.All(n))
		if len(got) != len(want) {
			t.Fatal(n, len(got), len(want))
		}
		for k := range got {
			if !same(got[k], want[k]) || k > 0 && compare(got[k-1], got[k]) >= 0 {
				t.Error(n, k, got[k], want[k])
			}
		}
	}
}

// begins reports whether the numbers of a line that are not 0 begin with 1 and
// alternate.
func begins(line []int) bool {
	next := 1
	for _, number := range line {
		if number == -next {
			return false
		}
		if number == next {
			next = -next
		}
	}
	return true
}

// columnsBegin reports whether all columns of some rows begin so.
func columnsBegin(rows [][]int) bool {
	for j := range rows[0] {
		var column []int
		for _, row := range rows {
			column = append(column, row[j])
		}
		if !begins(column) {
			return false
		}
	}
	return true
}

func TestAllRefused(t *testing.T) {
	for _, n := range append([]int{0}, noNumbers...) {
		refused(t, api.ErrArg)(noneOf(veils.All(n)))
	}
}

// P9.2: Heights, plain
func TestHeightsPlain(t *testing.T) {
	for _, c := range []struct{ table, want [][]int }{
		{unit(1), tableOf(2, 0, 1, 1, 0)},
		{unit(2), tableOf(3, 0, 1, 2, 1, 0, 1, 2, 1, 0)},
		{backwards(unit(2)), tableOf(3, 0, 1, 2, 1, 2, 1, 2, 1, 0)},
		{cross, tableOf(4, 0, 1, 2, 3, 1, 2, 1, 2, 2, 1, 2, 1, 3, 2, 1, 0)},
		{swap, tableOf(4, 0, 1, 2, 3, 1, 2, 1, 2, 2, 1, 0, 1, 3, 2, 1, 0)},
	} {
		if got := value[[][]int](t)(veils.Heights(c.table)); !same(got, c.want) {
			t.Error(c.table, got, c.want)
		}
		if got := value[[][]int](t)(veils.Of(c.want)); !same(got, c.table) {
			t.Error(c.want, got, c.table)
		}
	}
}

// heightsOf is by the words of the chapter.
func heightsOf(table [][]int) [][]int {
	return squareOf(len(table)+1, func(i, j int) int {
		sum := 0
		for row := range i {
			for column := range j {
				sum += table[row][column]
			}
		}
		return i + j - 2*sum
	})
}

// P9.2: Heights and Of of all veils
func TestHeights(t *testing.T) {
	for _, v := range all(t, 5) {
		h := value[[][]int](t)(veils.Heights(v))
		if want := heightsOf(v); !same(h, want) {
			t.Error(v, h, want)
		}
		if got := value[[][]int](t)(veils.Of(h)); !same(got, v) {
			t.Error(v, h, got)
		}
	}
}

// P9.2: Of of all small tables, and of heights in which one or two are changed, or all
// of them by the same
func TestOf(t *testing.T) {
	known := knownBy(t, heightsOf)
	tablesOf(1, -2, 3, func(table [][]int) { checkTold(t, veils.Of, known, table) })
	tablesOf(2, -1, 3, func(table [][]int) { checkTold(t, veils.Of, known, table) })
	tablesOf(3, 0, 2, func(table [][]int) { checkTold(t, veils.Of, known, table) })
	tablesOf(2, -1, 5, func(inner [][]int) {
		h := heightsOf(cross)
		h[1][1], h[1][2], h[2][1], h[2][2] = inner[0][0], inner[0][1], inner[1][0], inner[1][1]
		checkTold(t, veils.Of, known, h)
	})
	r := rand.New(rand.NewSource(2))
	for _, v := range all(t, 5) {
		for _, more := range []int{-2, -1, 1, 2, 4, math.MaxInt, math.MinInt} {
			h := heightsOf(v)
			checkTold(t, veils.Of, known, squareOf(len(h), func(i, j int) int { return h[i][j] + more }))
			checkTold(t, veils.Of, known, squareOf(len(h), func(i, j int) int { return more - h[i][j] }))
			h[r.Intn(len(h))][r.Intn(len(h))] += more
			checkTold(t, veils.Of, known, h)
			h[r.Intn(len(h))][r.Intn(len(h))] -= more
			checkTold(t, veils.Of, known, h)
		}
	}
}

// P9.2: Of of what has not the form of heights
func TestOfRefused(t *testing.T) {
	no := refused(t, api.ErrArg)
	for _, table := range [][][]int{nil, {}, {nil}, {{}}, {{0}}, {{0, 1}}, {{0}, {1}}, {{0, 1}, {1}}, {{0, 1}, {1, 0, 1}}, {{0, 1}, {1, 0}, {2, 1}}, {{0, 1}, nil}, {nil, {1, 0}},
		heightsOf(unit(6)), heightsOf(unit(20)), make([][]int, 4), make([][]int, 100000)} {
		no(noneOf(veils.Of(table)))
	}
	for n := 1; n <= 5; n++ {
		for i := range n + 1 {
			long, short := heightsOf(unit(n)), heightsOf(unit(n))
			long[i] = append(long[i], 0)
			short[i] = short[i][:n]
			no(noneOf(veils.Of(long)))
			no(noneOf(veils.Of(short)))
			for j := range n + 1 {
				for _, number := range []int{math.MinInt, math.MinInt + 1, -1 << 62, -1 << 32, -2, -1, n + 1, n + 2, 1 << 32, 1 << 62, math.MaxInt - 1, math.MaxInt} {
					h := heightsOf(unit(n))
					h[i][j] = number
					no(noneOf(veils.Of(h)))
				}
			}
		}
	}
}
