package veils_test

import (
	"slices"
	"testing"

	"cloche/api"
	"cloche/veils"
)

// P9.9
func TestCounts(t *testing.T) {
	for n, want := range []int{0, 1, 2, 7, 42, 429} {
		if n > 0 && len(value[[][][]int](t)(veils.All(n))) != want {
			t.Error(n, want)
		}
	}
}

// P9.10: all triangles of the form that the theorem names are made, row by row from the
// last one on; each one is of a veil, and there are no others.
func TestAllTriangles(t *testing.T) {
	for n := 1; n <= 5; n++ {
		last := make([]int, n)
		for j := range last {
			last[j] = j + 1
		}
		triangles := [][][]int{{last}}
		for k := n - 1; k >= 1; k-- {
			var higher [][][]int
			for _, rows := range triangles {
				for _, row := range between(rows[0]) {
					higher = append(higher, append([][]int{row}, rows...))
				}
			}
			triangles = higher
		}
		found := make(map[string]bool)
		for _, rows := range triangles {
			v := value[[][]int](t)(veils.From(rows))
			if again := value[[][]int](t)(veils.Triangle(v)); !isVeil(v) || !same(again, rows) {
				t.Error(rows, v, again)
			}
			found[keyOf(v)] = true
		}
		if len(found) != len(triangles) || len(found) != len(value[[][][]int](t)(veils.All(n))) {
			t.Error(n, len(found), len(triangles))
		}
	}
}

// between are all strictly ascending rows with one number less, each of them from the
// one at its place in row to the one behind that.
func between(row []int) [][]int {
	list := [][]int{nil}
	for k := range len(row) - 1 {
		var longer [][]int
		for _, some := range list {
			for number := row[k]; number <= row[k+1]; number++ {
				if k == 0 || some[k-1] < number {
					longer = append(longer, append(slices.Clone(some), number))
				}
			}
		}
		list = longer
	}
	return list
}

// P9.11: all tables with such borders and with steps of one are made, place by place;
// each one has a veil, and there are no others.
func TestAllHeights(t *testing.T) {
	for n := 1; n <= 5; n++ {
		h := squareOf(n+1, func(i, j int) int { return min(i+j, 2*n-i-j) })
		number := 0
		var fill func(place int)
		fill = func(place int) {
			if place == (n-1)*(n-1) {
				number++
				v := value[[][]int](t)(veils.Of(h))
				if again := value[[][]int](t)(veils.Heights(v)); !isVeil(v) || !same(again, h) {
					t.Error(h, v, again)
				}
				return
			}
			i, j := 1+place/(n-1), 1+place%(n-1)
			for _, height := range []int{h[i-1][j] - 1, h[i-1][j] + 1} {
				h[i][j] = height
				if isStep(h[i][j-1], height) && (i < n-1 || isStep(height, h[n][j])) && (j < n-1 || isStep(height, h[i][n])) {
					fill(place + 1)
				}
			}
		}
		fill(0)
		if number != len(value[[][][]int](t)(veils.All(n))) {
			t.Error(n, number)
		}
	}
}

func isStep(a, b int) bool { return a-b == 1 || b-a == 1 }

// P9.11: the heights of all veils
func TestSteps(t *testing.T) {
	for _, v := range all(t, 5) {
		h := value[[][]int](t)(veils.Heights(v))
		n := len(v)
		for i := range h {
			if h[0][i] != i || h[i][0] != i || h[n][i] != n-i || h[i][n] != n-i {
				t.Error(v, h)
			}
			for j := range h {
				if i > 0 && !isStep(h[i-1][j], h[i][j]) || j > 0 && !isStep(h[i][j-1], h[i][j]) {
					t.Error(v, h)
				}
			}
		}
	}
}

// goneAround is a pairing gone around by one.
func goneAround(pairing []int) []int {
	list := make([]int, len(pairing))
	for k, p := range pairing {
		list[(k+1)%len(list)] = (p + 1) % len(list)
	}
	return list
}

// P9.12 (Wieland)
func TestWieland(t *testing.T) {
	for _, v := range all(t, 5) {
		p := value[[]int](t)(veils.Pairing(v))
		g := value[[][]int](t)(veils.Gyrate(v))
		if q := value[[]int](t)(veils.Pairing(g)); !slices.Equal(q, goneAround(p)) {
			t.Error(v, p, g, q)
		}
	}
	for n := 1; n <= 5; n++ {
		for _, p := range pairings(2 * n) {
			if crosses(p) && n > 3 {
				continue
			}
			if value[int](t)(veils.Count(p)) != value[int](t)(veils.Count(goneAround(p))) {
				t.Error(p)
			}
		}
	}
}

// P9.13
func TestTurned(t *testing.T) {
	for _, v := range all(t, 5) {
		if !veils.IsVeil(backwards(v)) || !veils.IsVeil(across(v)) {
			t.Error(v)
		}
		for i := 1; i < len(v); i++ {
			for j := 1; j < len(v); j++ {
				once, e := veils.Turn(v, i, j)
				if e == api.ErrState {
					continue
				}
				if again := value[[][]int](t)(veils.Turn(once, i, j)); e != api.OK || same(once, v) || !same(again, v) {
					t.Error(v, i, j, once, again)
				}
			}
		}
	}
}

// P9.14
func TestPairingsDoNotCross(t *testing.T) {
	for _, v := range all(t, 5) {
		if p := value[[]int](t)(veils.Pairing(v)); crosses(p) || len(p) != 2*len(v) {
			t.Error(v, p)
		}
	}
}
