package veils_test

import (
	"slices"
	"testing"

	"cloche/api"
	"cloche/veils"
)

// P9.8: Minus, plain
func TestMinusPlain(t *testing.T) {
	for _, c := range []struct {
		table             [][]int
		minus, inversions int
	}{
		{unit(1), 0, 0},
		{unit(5), 0, 0},
		{backwards(unit(2)), 0, 1},
		{backwards(unit(3)), 0, 3},
		{backwards(unit(5)), 0, 10},
		{swap, 0, 1},
		{tableOf(3, 0, 1, 0, 0, 0, 1, 1, 0, 0), 0, 2},
		{cross, 1, 2},
		{diamond, 4, 7},
	} {
		if minus, inversions, e := veils.Minus(c.table); minus != c.minus || inversions != c.inversions || e != api.OK {
			t.Error(c, minus, inversions, e)
		}
	}
}

// P9.8: Minus of all veils, by the words of the chapter
func TestMinus(t *testing.T) {
	for _, v := range all(t, 5) {
		minus, inversions := 0, 0
		for place := range len(v) * len(v) {
			i, j := place/len(v), place%len(v)
			if v[i][j] == -1 {
				minus++
			}
			for other := range len(v) * len(v) {
				if k, l := other/len(v), other%len(v); k > i && l < j {
					inversions += v[i][j] * v[k][l]
				}
			}
		}
		if a, b, e := veils.Minus(v); a != minus || b != inversions || e != api.OK {
			t.Error(v, a, b, e, minus, inversions)
		}
	}
}

// P9.8: how many veils have so many numbers -1
func TestMinusCounts(t *testing.T) {
	for n, want := range [][]int{nil, {1}, {2}, {6, 1}, {24, 16, 2}, {120, 200, 94, 14, 1}} {
		if n == 0 {
			continue
		}
		counts := make([]int, len(want))
		for _, v := range value[[][][]int](t)(veils.All(n)) {
			minus, _, _ := veils.Minus(v)
			counts[minus]++
		}
		if !slices.Equal(counts, want) {
			t.Error(n, counts, want)
		}
	}
}

// P9.8: with x at each inversion and 1 + 1/x at each -1, all veils of a size together
// are 1 + x to the number of pairs of rows (Robbins and Rumsey).
func TestInversions(t *testing.T) {
	for n := 1; n <= 5; n++ {
		for x := 1; x <= 5; x++ {
			sum, want := 0, 1
			for _, v := range value[[][][]int](t)(veils.All(n)) {
				minus, inversions, _ := veils.Minus(v)
				product := 1
				for range inversions - minus {
					product *= x
				}
				for range minus {
					product *= x + 1
				}
				sum += product
			}
			for range n * (n - 1) / 2 {
				want *= x + 1
			}
			if sum != want {
				t.Error(n, x, sum, want)
			}
		}
	}
}
