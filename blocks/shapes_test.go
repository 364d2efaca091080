package blocks_test

import (
	"math"
	"math/rand"
	"slices"
	"testing"

	"cloche/api"
	"cloche/blocks"
)

// noShapes are lists that are not shapes.
var noShapes = [][]int{
	{0}, // rows without blocks
	{3, 0},
	{3, 0, 1},
	{-1},
	{2, -1},
	{math.MinInt},
	{1, 2}, // a row longer than the one before it
	{4, 2, 3},
	{2, 1, 1, 2},
	{41}, // too long
	{40 + 1<<32},
	{1 << 62, 1 << 62, 1 << 62, 1 << 62}, // with a sum that an int cannot hold
	{math.MaxInt},
	{math.MaxInt, math.MaxInt, 2},
	{40, 1}, // too many blocks
	{21, 20},
	{14, 14, 13},
	{5, 4, 4, 4, 3, 3, 3, 3, 3, 3, 3, 3},
	repeated(1, 13), // too many rows
	repeated(3, 13),
	repeated(1, 40),
	make([]int, 13),
	make([]int, 1000),
	repeated(40, 100000),
}

// fullShapes are shapes at the limits.
var fullShapes = [][]int{
	{40}, {39, 1}, {20, 20}, {14, 13, 13}, {10, 10, 10, 10}, {8, 8, 8, 8, 8}, {12, 11, 10, 7}, repeated(1, 12), repeated(3, 12),
	{7, 3, 3, 3, 3, 3, 3, 3, 3, 3, 3, 3}, {29, 1, 1, 1, 1, 1, 1, 1, 1, 1, 1, 1}, {4, 4, 4, 4, 3, 3, 3, 3, 3, 3, 3, 3},
	{8, 7, 6, 5, 4, 3, 2, 1}, {12, 8, 6, 5, 2, 2, 1, 1, 1, 1, 1}, {12, 1, 1, 1, 1, 1, 1, 1, 1, 1, 1, 1}, {7, 6, 4, 2, 1},
}

// noWires are numbers that t must not be.
var noWires = []int{math.MinInt, -2, -1, 0, 1, 7, 8, 12, 40, 2 + 1<<32, math.MaxInt}

func repeated(number, times int) []int { return slices.Repeat([]int{number}, times) }

func same(a, b [][]int) bool { return slices.EqualFunc(a, b, slices.Equal) }

func copied(list [][]int) [][]int {
	clone := slices.Clone(list)
	for i := range clone {
		clone[i] = slices.Clone(clone[i])
	}
	return clone
}

func countOf(shape []int) int {
	blocks := 0
	for _, row := range shape {
		blocks += row
	}
	return blocks
}

func countAll(shapes [][]int) int {
	blocks := 0
	for _, shape := range shapes {
		blocks += countOf(shape)
	}
	return blocks
}

// grown returns the shapes that have one block more.
func grown(shape []int) [][]int {
	list := [][]int{append(slices.Clone(shape), 1)}
	for r := range shape {
		if r == 0 || shape[r] < shape[r-1] {
			more := slices.Clone(shape)
			more[r]++
			list = append(list, more)
		}
	}
	return list
}

// allShapes returns, for each number of blocks up to most, all shapes, in
// lexicographic order.
func allShapes(most int) [][][]int {
	bySize := [][][]int{{nil}}
	for n := range most {
		var next [][]int
		for _, shape := range bySize[n] {
			for _, more := range grown(shape) {
				if len(more) <= 12 {
					next = append(next, more)
				}
			}
		}
		slices.SortFunc(next, slices.Compare)
		bySize = append(bySize, slices.CompactFunc(next, slices.Equal))
	}
	return bySize
}

func smallShapes(most int) [][]int { return slices.Concat(allShapes(most)...) }

// randomShapes returns shapes of many sizes; with a seed of its own, so that
// they are always the same.
func randomShapes(many int) [][]int {
	r := rand.New(rand.NewSource(1))
	var list [][]int
	for range many {
		var shape []int
		for range r.Intn(41) {
			options := slices.DeleteFunc(grown(shape), func(more []int) bool { return len(more) > 12 })
			shape = options[r.Intn(len(options))]
		}
		list = append(list, shape)
	}
	return list
}

func someShapes() [][]int {
	return slices.Concat(smallShapes(13), fullShapes, randomShapes(300))
}

// isShape is the chapter's definition, for numbers that are not too great.
func isShape(list []int) bool {
	sum := 0
	for r, row := range list {
		if row < 1 || row > 40 || r > 0 && row > list[r-1] {
			return false
		}
		sum += row
	}
	return len(list) <= 12 && sum <= 40
}

// Types of the chapter
func TestIsShape(t *testing.T) {
	for _, shape := range append(someShapes(), nil, []int{}, []int{1}, []int{4, 2, 1}, []int{3, 3, 3}) {
		if !blocks.IsShape(shape) {
			t.Error(shape)
		}
	}
	for _, list := range noShapes {
		if blocks.IsShape(list) {
			t.Error(list)
		}
	}
	for _, shape := range someShapes() { // with one number changed, some are
		for r := range shape {
			for _, row := range []int{math.MinInt, -1, 0, shape[r] - 1, shape[r] + 1, 2 * shape[r], 40, 41, math.MaxInt} {
				list := slices.Clone(shape)
				list[r] = row
				want := row < 42 && isShape(list)
				if blocks.IsShape(list) != want {
					t.Error(list, want)
				}
			}
		}
	}
}

// Types of the chapter, for all lists of small numbers
func TestIsShapeOfSmallLists(t *testing.T) {
	for a := -1; a <= 42; a++ {
		for b := -1; b <= 42; b++ {
			if blocks.IsShape([]int{a, b}) != isShape([]int{a, b}) {
				t.Error(a, b)
			}
			for c := -1; c <= 15; c++ {
				if list := []int{a, b, c}; blocks.IsShape(list) != isShape(list) {
					t.Error(list)
				}
			}
		}
	}
}

// All functions return ErrArg and zero values if shape is not one.
func TestNoShapes(t *testing.T) {
	for _, list := range noShapes {
		if l, e := blocks.Hooks(list); len(l) != 0 || e != api.ErrArg {
			t.Error(list, l, e)
		}
		if l, e := blocks.Beads(list); len(l) != 0 || e != api.ErrArg {
			t.Error(list, l, e)
		}
		if l, e := blocks.Turned(list); len(l) != 0 || e != api.ErrArg {
			t.Error(list, l, e)
		}
		if n, e := blocks.Ways(list); n != 0 || e != api.ErrArg {
			t.Error(list, n, e)
		}
		for wires := range 9 {
			checkNoWires(t, list, wires)
		}
	}
}

// The functions with t return ErrArg and zero values if it is out of its range.
func TestNoWires(t *testing.T) {
	for _, shape := range append(fullShapes, nil, []int{1}, []int{4, 2, 1}) {
		for _, wires := range noWires {
			checkNoWires(t, shape, wires)
		}
	}
}

// checkNoWires checks that the functions with t return ErrArg and zero values.
func checkNoWires(t *testing.T, shape []int, wires int) {
	t.Helper()
	if l, e := blocks.Strips(shape, wires); len(l) != 0 || e != api.ErrArg {
		t.Error(shape, wires, l, e)
	}
	if l, n, e := blocks.Core(shape, wires); len(l) != 0 || n != 0 || e != api.ErrArg {
		t.Error(shape, wires, l, n, e)
	}
	if l, e := blocks.Quotient(shape, wires); len(l) != 0 || e != api.ErrArg {
		t.Error(shape, wires, l, e)
	}
	if ok, e := blocks.IsCore(shape, wires); ok || e != api.ErrArg {
		t.Error(shape, wires, ok, e)
	}
}
