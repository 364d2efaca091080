package fits_test

import (
	"math"
	"reflect"
	"slices"
	"testing"

	"cloche/api"
	"cloche/fits"
)

// P6.5: shifted tables that are plain
func TestPlainShifted(t *testing.T) {
	for _, c := range []struct {
		table      [][]int
		column, by int
		want       [][]int
	}{
		{[][]int{{5}}, 0, 15, [][]int{{20}}},
		{[][]int{{20}}, 0, -40, [][]int{{-20}}},
		{[][]int{{-20}}, 0, 40, [][]int{{20}}},
		{doves, 0, 0, doves},
		{doves, 1, -2, [][]int{{0, 1}, {1, -2}}},
		{doves, 0, 19, [][]int{{19, 3}, {20, 0}}},
		{ring, 1, 5, [][]int{{0, 7, -1}, {-1, 5, 2}, {2, 4, 0}}},
		{ring, 2, -19, [][]int{{0, 2, -20}, {-1, 0, -17}, {2, -1, -19}}},
	} {
		if table, e := fits.Shifted(c.table, c.column, c.by); !reflect.DeepEqual(table, c.want) || e != api.OK {
			t.Error(c, table, e)
		}
	}
}

// P6.5: all columns and all numbers around those that can be added
func TestShifted(t *testing.T) {
	no := refused(t, api.ErrArg)
	for _, table := range append(randomTables(50, 20, 8), randomTables(50, 3, 9)...) {
		n := len(table)
		for column := range n {
			for by := -45; by <= 45; by++ {
				want, fits20 := cloned(table), true
				for i := range n {
					want[i][column] += by
					fits20 = fits20 && want[i][column] >= -20 && want[i][column] <= 20
				}
				shifted, e := fits.Shifted(table, column, by)
				if !fits20 {
					no(noneOf(shifted, e))
				} else if !reflect.DeepEqual(shifted, want) || e != api.OK {
					t.Error(table, column, by, shifted, e)
				}
			}
			for _, by := range []int{math.MinInt, math.MinInt + 20, -1 << 32, 1 << 32, math.MaxInt - 20, math.MaxInt} {
				no(noneOf(fits.Shifted(table, column, by)))
			}
		}
		for _, column := range []int{math.MinInt, -1 << 32, -1, n, n + 1, 3, 1 << 32, math.MaxInt} {
			no(noneOf(fits.Shifted(table, column, 0)))
		}
	}
}

// orders returns all lists that have each number from 0 to n - 1 just once.
func orders(n int) [][]int {
	lists := [][]int{nil}
	for number := range n {
		var more [][]int
		for _, list := range lists {
			for at := range number + 1 {
				more = append(more, slices.Insert(slices.Clone(list), at, number))
			}
		}
		lists = more
	}
	return lists
}

// P6.5: renamed tables, by all orders
func TestRenamed(t *testing.T) {
	if table, e := fits.Renamed(doves, []int{1, 0}); !reflect.DeepEqual(table, [][]int{{0, 1}, {3, 0}}) || e != api.OK {
		t.Error(table, e)
	}
	counted := [][]int{{0, 1, 2}, {10, 11, 12}, {20, -1, -2}}
	if table, e := fits.Renamed(counted, []int{1, 2, 0}); !reflect.DeepEqual(table, [][]int{{11, 12, 10}, {-1, -2, 20}, {1, 2, 0}}) || e != api.OK {
		t.Error(table, e)
	}
	for _, table := range randomTables(100, 20, 10) {
		n := len(table)
		for _, order := range orders(n) {
			want := squareOf(n)
			for i := range n {
				for k := range n {
					want[i][k] = table[order[i]][order[k]]
				}
			}
			if renamed, e := fits.Renamed(table, order); !reflect.DeepEqual(renamed, want) || e != api.OK {
				t.Error(table, order, renamed, e)
			}
		}
	}
}

// P6.5: lists that do not have each fashion just once
func TestNoOrder(t *testing.T) {
	no := refused(t, api.ErrArg)
	for n, table := range [][][]int{nil, {{5}}, doves, ring} {
		if n == 0 {
			continue
		}
		all := orders(n)
		for _, order := range append(orders(n-1), orders(n+1)...) {
			no(noneOf(fits.Renamed(table, order)))
		}
		no(noneOf(fits.Renamed(table, make([]int, 100000))))
		no(noneOf(fits.Renamed(table, append(slices.Clone(all[0]), all[0]...))))
		for _, order := range all {
			for at := range order {
				for _, number := range []int{math.MinInt, -1, 0, 1, 2, n, n + 1, 1 << 32, 1<<32 + order[at], math.MaxInt} {
					changed := slices.Clone(order)
					changed[at] = number
					if number != order[at] {
						no(noneOf(fits.Renamed(table, changed)))
					}
				}
			}
		}
	}
}
