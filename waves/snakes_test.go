package waves_test

import (
	"math"
	"slices"
	"testing"

	"cloche/api"
	"cloche/waves"
)

// signedOf returns all lists of n numbers that have, for each k from 1 to n,
// just one of k and -k.
func signedOf(n int) [][]int {
	var lists [][]int
	for _, row := range rowsOf(n) {
		for set := range 1 << n {
			list := slices.Clone(row)
			for i := range list {
				if set>>i&1 == 1 {
					list[i] = -list[i]
				}
			}
			lists = append(lists, list)
		}
	}
	return lists
}

// isSnake goes by the words of the chapter: the first number is above 0, and
// each one at an odd position, counted from 1, is greater than its neighbours.
func isSnake(list []int) bool {
	for i, number := range list {
		switch {
		case i == 0 && number <= 0:
			return false
		case i%2 == 1 && number > list[i-1]:
			return false
		case i%2 == 0 && i > 0 && number < list[i-1]:
			return false
		}
	}
	return true
}

// P5.5: the example, and lists whose answers are plain
func TestPlainSnakes(t *testing.T) {
	for _, c := range []struct {
		list []int
		want bool
	}{
		{nil, true},
		{[]int{}, true},
		{[]int{1}, true},
		{[]int{-1}, false},
		{[]int{1, -2}, true},
		{[]int{2, 1}, true},
		{[]int{2, -1}, true},
		{[]int{1, 2}, false},
		{[]int{-1, 2}, false},
		{[]int{-1, -2}, false}, // goes down, but from below 0
		{[]int{-2, -1}, false},
		{[]int{-2, 1}, false},
		{[]int{1, -2, 3}, true},
		{[]int{1, -3, -2}, true},
		{[]int{1, -2, -3}, false},
		{[]int{3, 2, 1}, false},
		{[]int{6, -5, 4, -3, 2, -1}, true},
		{[]int{1, -2, 3, -4, 5, -6}, true},
		{[]int{1, -2, 3, -4, 5, 6}, false},
		{[]int{-1, -2, 3, -4, 5, -6}, false},
	} {
		if ok, e := waves.IsSnake(c.list); ok != c.want || e != api.OK {
			t.Error(c, ok, e)
		}
	}
}

// P5.5, of all lists with one of k and -k; and how many snakes there are
func TestSnakes(t *testing.T) {
	for n := range 7 {
		many := 0
		for _, list := range signedOf(n) {
			want := isSnake(list)
			if want {
				many++
			}
			if ok, e := waves.IsSnake(list); ok != want || e != api.OK {
				t.Error(list, ok, e)
			}
		}
		if got, e := waves.Snakes(n); got != many || e != api.OK {
			t.Error(n, got, e, many)
		}
	}
}

// P5.5: ErrLimit comes first; with an error, nothing (rule 2)
func TestNoSnakes(t *testing.T) {
	for _, list := range [][]int{
		{0}, {2}, {-2}, {math.MinInt}, {math.MaxInt}, {-math.MaxInt}, {1 + 1<<32}, {-1 - 1<<32},
		{1, 1}, {1, -1}, {-1, 1}, {2, -2}, {1, 0}, {0, 0}, {1, 3}, {1, -3}, {1, math.MinInt}, {math.MinInt, math.MinInt},
		{3, -1, 3}, {3, -2, 2}, {1, -2, 4}, {1, -2, 3, -4, 5, -5}, {1, -2, 3, -4, 5, -7}, make([]int, 6),
	} {
		if ok, e := waves.IsSnake(list); ok || e != api.ErrArg {
			t.Error(list, ok, e)
		}
	}
	for _, list := range append([][]int{make([]int, 7), {1, -2, 3, -4, 5, -6, 7}, {math.MinInt, 1, 1, 1, 1, 1, 1}}, longLists...) {
		if ok, e := waves.IsSnake(list); ok || e != api.ErrLimit {
			t.Error(list, ok, e)
		}
	}
	for _, n := range []int{math.MinInt, -1 << 32, -1, 7, 8, 10, 1 << 32, math.MaxInt} {
		if got, e := waves.Snakes(n); got != 0 || e != api.ErrArg {
			t.Error(n, got, e)
		}
	}
}
