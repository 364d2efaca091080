package veils_test

import (
	"math"
	"math/rand"
	"slices"
	"testing"

	"cloche/api"
	"cloche/veils"
)

// P9.3: Triangle and From, plain
func TestTrianglePlain(t *testing.T) {
	for _, c := range []struct{ table, want [][]int }{
		{unit(1), [][]int{{1}}},
		{unit(3), [][]int{{1}, {1, 2}, {1, 2, 3}}},
		{backwards(unit(3)), [][]int{{3}, {2, 3}, {1, 2, 3}}},
		{cross, [][]int{{2}, {1, 3}, {1, 2, 3}}},
		{swap, [][]int{{2}, {1, 2}, {1, 2, 3}}},
		{diamond, [][]int{{3}, {2, 4}, {1, 3, 5}, {1, 2, 4, 5}, {1, 2, 3, 4, 5}}},
	} {
		if got := value[[][]int](t)(veils.Triangle(c.table)); !same(got, c.want) {
			t.Error(c.table, got, c.want)
		}
		if got := value[[][]int](t)(veils.From(c.want)); !same(got, c.table) {
			t.Error(c.want, got, c.table)
		}
	}
}

// triangleOf is by the words of the chapter.
func triangleOf(table [][]int) [][]int {
	sums := make([]int, len(table))
	var rows [][]int
	for _, numbers := range table {
		var row []int
		for j := range sums {
			sums[j] += numbers[j]
			if sums[j] == 1 {
				row = append(row, j+1)
			}
		}
		rows = append(rows, row)
	}
	return rows
}

// P9.3, P9.10: Triangle of all veils, and From of their triangles
func TestTriangle(t *testing.T) {
	for _, v := range all(t, 5) {
		rows := value[[][]int](t)(veils.Triangle(v))
		if want := triangleOf(v); !same(rows, want) {
			t.Error(v, rows, want)
		}
		if got := value[[][]int](t)(veils.From(rows)); !same(got, v) {
			t.Error(v, rows, got)
		}
	}
}

// rowsUpTo are all lists of at most so many numbers from low to high.
func rowsUpTo(many, low, high int) [][]int {
	list := [][]int{{}}
	for k := 0; k < len(list) && len(list[k]) < many; k++ {
		for number := low; number <= high; number++ {
			list = append(list, append(slices.Clone(list[k]), number))
		}
	}
	return list
}

// P9.3: From of all rows of small numbers, up to two, and up to three with the last one
// as it has to be, or nearly so
func TestFromAll(t *testing.T) {
	known := knownBy(t, triangleOf)
	for _, first := range rowsUpTo(3, -1, 3) {
		checkTold(t, veils.From, known, [][]int{first})
		for _, second := range rowsUpTo(3, -1, 3) {
			checkTold(t, veils.From, known, [][]int{first, second})
		}
	}
	for _, first := range rowsUpTo(2, 0, 4) {
		for _, second := range rowsUpTo(3, 0, 4) {
			for _, third := range [][]int{{1, 2, 3}, {1, 2}, {1, 3, 2}, {0, 1, 2}, {1, 2, 4}, {1, 2, 3, 4}, {1, 1, 2, 3}, nil} {
				checkTold(t, veils.From, known, [][]int{first, second, third})
			}
		}
	}
}

// P9.3: From of triangles in which one or two numbers are changed, added or taken away
func TestFromChanged(t *testing.T) {
	known := knownBy(t, triangleOf)
	r := rand.New(rand.NewSource(3))
	for _, v := range all(t, 5) {
		for range 30 {
			rows := triangleOf(v)
			for range 1 + r.Intn(2) {
				k := r.Intn(len(rows))
				if len(rows[k]) == 0 {
					continue
				}
				at := r.Intn(len(rows[k]))
				switch r.Intn(5) {
				case 0:
					rows[k] = slices.Delete(rows[k], at, at+1)
				case 1:
					rows[k] = slices.Insert(rows[k], at, r.Intn(7))
				case 2:
					rows[k][0], rows[k][at] = rows[k][at], rows[k][0]
				default:
					rows[k][at] += r.Intn(3) - 1
				}
			}
			checkTold(t, veils.From, known, rows)
		}
	}
}

// P9.3: From of what has not the form of a triangle
func TestFromRefused(t *testing.T) {
	no := refused(t, api.ErrArg)
	for _, rows := range [][][]int{nil, {}, {nil}, {{}}, {{0}}, {{2}}, {{1, 2}}, {{1}, {1}}, {{1}, {2, 1}}, {{1}, {2, 3}, {1, 2, 3}}, {{1, 2, 3}, {1, 2}, {1}},
		{{1}, {1, 2}, {1, 2, 3}, nil}, triangleOf(unit(6)), triangleOf(unit(20)), make([][]int, 5), make([][]int, 100000), {make([]int, 100000)}} {
		no(noneOf(veils.From(rows)))
	}
	for n := 1; n <= 5; n++ {
		for k := range n {
			for at := range k + 1 {
				for _, number := range []int{math.MinInt, -1 << 32, -1, 0, n + 1, 1<<32 + 1, math.MaxInt} {
					rows := triangleOf(unit(n))
					rows[k][at] = number
					no(noneOf(veils.From(rows)))
				}
			}
		}
	}
}
