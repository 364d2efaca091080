package waves_test

import (
	"math"
	"slices"
	"testing"

	"cloche/api"
	"cloche/waves"
)

// noRows are lists that are not too long, and not rows.
var noRows = [][]int{
	{0},
	{2},
	{-1},
	{math.MinInt},
	{math.MaxInt},
	{1 + 1<<32},
	{1, 1},
	{2, 2},
	{0, 1},
	{1, 3},
	{-1, 2},
	{1, -2},
	{1, 2, 4},
	{3, 1, 3},
	{1, 3, 2, 0},
	{2, 3, 1, 5},
	{1, 3, math.MinInt},
	{math.MinInt, math.MaxInt},
	{1, 2, 3, 4, 5, 6, 7, 8, 9, 9},
	{1, 2, 3, 4, 5, 6, 7, 8, 9, 11},
	{0, 1, 2, 3, 4, 5, 6, 7, 8, 9},
	make([]int, 10),
}

// longLists have more than MaxRow numbers, whatever these are.
var longLists = [][]int{
	make([]int, 11),
	{1, 2, 3, 4, 5, 6, 7, 8, 9, 10, 11},
	{1, 11, 2, 10, 3, 9, 4, 8, 5, 7, 6},
	{math.MinInt, 1, 2, 3, 4, 5, 6, 7, 8, 9, math.MaxInt},
	make([]int, 100000),
}

// rowsOf returns all rows of n, in lexicographic order.
func rowsOf(n int) [][]int {
	return grown(nil, n, func([]int) bool { return true })
}

// wavesOf returns all waves of n, in lexicographic order.
func wavesOf(n int) [][]int {
	return grown(nil, n, isWave)
}

// grown returns all rows of n that begin with a list, and of which good says
// each time that what begins them is good.
func grown(list []int, n int, good func([]int) bool) [][]int {
	if !good(list) {
		return nil
	}
	if len(list) == n {
		return [][]int{list}
	}
	var rows [][]int
	for number := 1; number <= n; number++ {
		if !slices.Contains(list, number) {
			rows = append(rows, grown(append(slices.Clone(list), number), n, good)...)
		}
	}
	return rows
}

// isWave goes by the word of the chapter: what stands at an odd position,
// counted from 1, is less than both of its neighbours.
func isWave(list []int) bool {
	for i := 0; i < len(list); i += 2 {
		if i > 0 && list[i] > list[i-1] || i+1 < len(list) && list[i] > list[i+1] {
			return false
		}
	}
	return true
}

// turnsOf counts the positions, but the first and the last one, at which a
// number is the greatest or the least of three.
func turnsOf(row []int) int {
	turns := 0
	for i := range row {
		if i > 0 && i+1 < len(row) {
			three := row[i-1 : i+2]
			if row[i] == slices.Max(three) || row[i] == slices.Min(three) {
				turns++
			}
		}
	}
	return turns
}

func turnedOf(row []int) []int {
	turned := slices.Clone(row)
	for i := range turned {
		turned[i] = len(row) + 1 - row[i]
	}
	return turned
}

// P5.1: the examples, and rows whose answers are plain
func TestPlainRows(t *testing.T) {
	for _, c := range []struct {
		row    []int
		wave   bool
		turned []int
		turns  int
	}{
		{nil, true, nil, 0},
		{[]int{}, true, nil, 0},
		{[]int{1}, true, []int{1}, 0},
		{[]int{1, 2}, true, []int{2, 1}, 0},
		{[]int{2, 1}, false, []int{1, 2}, 0},
		{[]int{1, 3, 2}, true, []int{3, 1, 2}, 1},
		{[]int{2, 3, 1}, true, []int{2, 1, 3}, 1},
		{[]int{3, 1, 2}, false, []int{1, 3, 2}, 1},
		{[]int{1, 2, 3}, false, []int{3, 2, 1}, 0},
		{[]int{3, 2, 1}, false, []int{1, 2, 3}, 0},
		{[]int{1, 3, 2, 4}, true, []int{4, 2, 3, 1}, 2},
		{[]int{1, 4, 3, 2}, false, []int{4, 1, 2, 3}, 1},
		{[]int{1, 2, 4, 3}, false, []int{4, 3, 1, 2}, 1},
		{[]int{3, 4, 1, 2}, true, []int{2, 1, 4, 3}, 2},
		{[]int{2, 5, 3, 4, 1}, true, []int{4, 1, 3, 2, 5}, 3},
		{[]int{2, 5, 3, 1, 4}, false, []int{4, 1, 3, 5, 2}, 2}, // not at its end
		{[]int{1, 2, 3, 4, 5, 6, 7, 8, 9, 10}, false, []int{10, 9, 8, 7, 6, 5, 4, 3, 2, 1}, 0},
		{[]int{9, 10, 7, 8, 5, 6, 3, 4, 1, 2}, true, []int{2, 1, 4, 3, 6, 5, 8, 7, 10, 9}, 8},
	} {
		if ok, e := waves.IsWave(c.row); ok != c.wave || e != api.OK {
			t.Error(c, ok, e)
		}
		if l, e := waves.Turned(c.row); !slices.Equal(l, c.turned) || e != api.OK {
			t.Error(c, l, e)
		}
		if n, e := waves.Turns(c.row); n != c.turns || e != api.OK {
			t.Error(c, n, e)
		}
	}
}

// P5.1, of all rows up to eight numbers, by the words of the chapter
func TestAllRows(t *testing.T) {
	for n := range 9 {
		for _, row := range rowsOf(n) {
			if ok, e := waves.IsWave(row); ok != isWave(row) || e != api.OK {
				t.Error(row, ok, e)
			}
			if l, e := waves.Turned(row); !slices.Equal(l, turnedOf(row)) || e != api.OK {
				t.Error(row, l, e)
			}
			if turns, e := waves.Turns(row); turns != turnsOf(row) || e != api.OK {
				t.Error(row, turns, e)
			}
		}
	}
}

// The errors of all functions with a row: ErrLimit first, and ErrArg; with each,
// nothing (rule 2).
func TestNoRows(t *testing.T) {
	check := func(list []int, want api.Errno) {
		t.Helper()
		if ok, e := waves.IsWave(list); ok || e != want {
			t.Error("IsWave", list, ok, e)
		}
		if l, e := waves.Turned(list); len(l) != 0 || e != want {
			t.Error("Turned", list, l, e)
		}
		if n, e := waves.Turns(list); n != 0 || e != want {
			t.Error("Turns", list, n, e)
		}
		if n, e := waves.Rank(list); n != 0 || e != want {
			t.Error("Rank", list, n, e)
		}
		if ok, e := waves.IsAndre(list); ok || e != want {
			t.Error("IsAndre", list, ok, e)
		}
	}
	for _, list := range noRows {
		check(list, api.ErrArg)
	}
	for _, list := range longLists {
		check(list, api.ErrLimit)
	}
}
