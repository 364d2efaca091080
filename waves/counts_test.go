package waves_test

import (
	"math"
	"slices"
	"testing"

	"cloche/api"
	"cloche/waves"
)

// noRowSizes are numbers that are not from 0 to MaxRow.
var noRowSizes = []int{math.MinInt, -1 << 32, -2, -1, 11, 12, 18, 1 << 32, 1<<32 + 3, math.MaxInt}

func same(a, b [][]int) bool { return slices.EqualFunc(a, b, slices.Equal) }

// P5.2: the example, and as many as there are waves
func TestCount(t *testing.T) {
	for n, want := range []int{1, 1, 1, 2, 5, 16, 61, 272, 1385, 7936, 50521} {
		if got, e := waves.Count(n); got != want || e != api.OK {
			t.Error(n, got, e)
		}
		if many := len(wavesOf(n)); many != want {
			t.Error(n, many)
		}
	}
	for _, n := range noRowSizes {
		if got, e := waves.Count(n); got != 0 || e != api.ErrArg {
			t.Error(n, got, e)
		}
	}
}

// P5.2: as many as there are waves that begin so
func TestFrom(t *testing.T) {
	for n := 1; n <= 10; n++ {
		many := make([]int, n)
		for _, wave := range wavesOf(n) {
			many[wave[0]-1]++
		}
		for first := 1; first <= n; first++ {
			if got, e := waves.From(n, first); got != many[first-1] || e != api.OK {
				t.Error(n, first, got, e)
			}
		}
	}
}

// P5.2: numbers of waves that are plain
func TestPlainFrom(t *testing.T) {
	for _, c := range [][3]int{{1, 1, 1}, {2, 1, 1}, {2, 2, 0}, {3, 1, 1}, {3, 2, 1}, {3, 3, 0}, {4, 1, 2}, {4, 2, 2}, {4, 3, 1}, {4, 4, 0}, {10, 1, 7936}, {10, 10, 0}} {
		if got, e := waves.From(c[0], c[1]); got != c[2] || e != api.OK {
			t.Error(c, got, e)
		}
	}
}

// P5.2: no such n, or no such first number; n = 0 is none here
func TestNoFrom(t *testing.T) {
	for _, n := range append([]int{0}, noRowSizes...) {
		for _, first := range []int{math.MinInt, -1, 0, 1, 2, 11, math.MaxInt, n} {
			if got, e := waves.From(n, first); got != 0 || e != api.ErrArg {
				t.Error(n, first, got, e)
			}
		}
	}
	for n := 1; n <= 10; n++ {
		for _, first := range []int{math.MinInt, -1, 0, n + 1, n + 2, 11, n + 1<<32, math.MaxInt} {
			if got, e := waves.From(n, first); got != 0 || e != api.ErrArg {
				t.Error(n, first, got, e)
			}
		}
	}
}

// P5.2: the example, and the least triangles
func TestPlainTriangle(t *testing.T) {
	for n, want := range [][][]int{
		{{1}},
		{{1}, {0, 1}},
		{{1}, {0, 1}, {0, 1, 1}},
		{{1}, {0, 1}, {0, 1, 1}, {0, 1, 2, 2}},
		{{1}, {0, 1}, {0, 1, 1}, {0, 1, 2, 2}, {0, 2, 4, 5, 5}},
		{{1}, {0, 1}, {0, 1, 1}, {0, 1, 2, 2}, {0, 2, 4, 5, 5}, {0, 5, 10, 14, 16, 16}},
	} {
		if l, e := waves.Triangle(n); !same(l, want) || e != api.OK {
			t.Error(n, l, e)
		}
	}
}

// P5.2: each row is filled by the row before, counted from its end; the last
// numbers up to 18 are as known.
func TestTriangle(t *testing.T) {
	last := []int{1, 1, 1, 2, 5, 16, 61, 272, 1385, 7936, 50521, 353792, 2702765, 22368256, 199360981, 1903757312, 19391512145, 209865342976, 2404879675441}
	for n := range 19 {
		triangle, e := waves.Triangle(n)
		if len(triangle) != n+1 || e != api.OK {
			t.Fatal(n, triangle, e)
		}
		for k, row := range triangle {
			if len(row) != k+1 || row[k] != last[k] {
				t.Fatal(n, k, row)
			}
			if k == 0 {
				continue
			}
			fromItsEnd := slices.Clone(triangle[k-1])
			slices.Reverse(fromItsEnd)
			if row[0] != 0 {
				t.Error(n, k, row)
			}
			for i, number := range fromItsEnd {
				if row[i+1] != row[i]+number {
					t.Error(n, k, row)
				}
			}
		}
	}
	for _, n := range []int{math.MinInt, -1 << 32, -2, -1, 19, 20, 1 << 32, math.MaxInt} {
		if l, e := waves.Triangle(n); len(l) != 0 || e != api.ErrArg {
			t.Error(n, l, e)
		}
	}
}
