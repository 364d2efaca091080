package waves_test

import (
	"slices"
	"testing"

	"cloche/api"
	"cloche/waves"
)

// andreOf makes all André lists of some numbers, which ascend: each of them but
// the least and the greatest is set before the least one or behind it.
func andreOf(numbers []int) [][]int {
	if len(numbers) < 2 {
		return [][]int{numbers}
	}
	least, greatest := numbers[0], numbers[len(numbers)-1]
	free := numbers[1 : len(numbers)-1]
	var lists [][]int
	for set := range 1 << len(free) {
		var before, behind []int
		for i, number := range free {
			if set>>i&1 == 1 {
				before = append(before, number)
			} else {
				behind = append(behind, number)
			}
		}
		behind = append(behind, greatest)
		for _, first := range andreOf(before) {
			for _, last := range andreOf(behind) {
				lists = append(lists, slices.Concat(first, []int{least}, last))
			}
		}
	}
	return lists
}

// andreRowsOf returns all André rows of n, in lexicographic order.
func andreRowsOf(n int) [][]int {
	var numbers []int
	for number := range n {
		numbers = append(numbers, number+1)
	}
	rows := andreOf(numbers)
	slices.SortFunc(rows, slices.Compare)
	return rows
}

// P5.4: rows whose answers are plain
func TestPlainAndre(t *testing.T) {
	for _, c := range []struct {
		row  []int
		want bool
	}{
		{nil, true},
		{[]int{}, true},
		{[]int{1}, true},
		{[]int{1, 2}, true},
		{[]int{2, 1}, false},
		{[]int{1, 2, 3}, true},
		{[]int{2, 1, 3}, true},
		{[]int{1, 3, 2}, false}, // 3 2, behind the least one, is none
		{[]int{3, 1, 2}, false},
		{[]int{2, 3, 1}, false},
		{[]int{1, 2, 3, 4}, true},
		{[]int{1, 3, 2, 4}, true},
		{[]int{2, 1, 3, 4}, true},
		{[]int{2, 3, 1, 4}, true},
		{[]int{3, 1, 2, 4}, true},
		{[]int{3, 2, 1, 4}, false}, // 3 2, before the least one, is none
		{[]int{3, 4, 1, 2}, false}, // the greatest one stands before the least one
		{[]int{2, 1, 4, 3}, false},
		{[]int{2, 4, 1, 3}, false},
		{[]int{1, 2, 3, 4, 5, 6, 7, 8, 9, 10}, true},
		{[]int{2, 3, 4, 5, 6, 7, 8, 9, 1, 10}, true},
		{[]int{3, 2, 4, 5, 6, 7, 8, 9, 1, 10}, true},
		{[]int{2, 3, 4, 5, 6, 7, 9, 8, 1, 10}, false},
		{[]int{10, 9, 8, 7, 6, 5, 4, 3, 2, 1}, false},
	} {
		if ok, e := waves.IsAndre(c.row); ok != c.want || e != api.OK {
			t.Error(c, ok, e)
		}
	}
}

// P5.4: of all rows up to eight numbers, those are André rows that can be made as
// such
func TestIsAndre(t *testing.T) {
	for n := range 9 {
		andre := andreRowsOf(n)
		for _, row := range rowsOf(n) {
			_, want := slices.BinarySearchFunc(andre, row, slices.Compare)
			if ok, e := waves.IsAndre(row); ok != want || e != api.OK {
				t.Error(row, ok, e)
			}
		}
	}
}

// P5.4: as many as there are André rows, all of them different
func TestAndre(t *testing.T) {
	for n := range 11 {
		rows := andreRowsOf(n)
		if different := len(slices.CompactFunc(slices.Clone(rows), slices.Equal)); different != len(rows) {
			t.Error(n, different, len(rows))
		}
		if got, e := waves.Andre(n); got != len(rows) || e != api.OK {
			t.Error(n, got, e, len(rows))
		}
		for _, row := range rows {
			if ok, e := waves.IsAndre(row); !ok || e != api.OK {
				t.Error(row, ok, e)
			}
		}
	}
	for _, n := range noRowSizes {
		if got, e := waves.Andre(n); got != 0 || e != api.ErrArg {
			t.Error(n, got, e)
		}
	}
}
