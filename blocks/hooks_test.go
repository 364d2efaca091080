package blocks_test

import (
	"slices"
	"testing"

	"cloche/api"
	"cloche/blocks"
)

// isBlock reports whether a shape has a block at a row and a column.
func isBlock(shape []int, r, c int) bool { return r < len(shape) && c < shape[r] }

// hooksOf walks along each hook.
func hooksOf(shape []int) [][]int {
	var hooks [][]int
	for r := range shape {
		var row []int
		for c := 0; isBlock(shape, r, c); c++ {
			length := 1
			for right := c + 1; isBlock(shape, r, right); right++ {
				length++
			}
			for below := r + 1; isBlock(shape, below, c); below++ {
				length++
			}
			row = append(row, length)
		}
		hooks = append(hooks, row)
	}
	return hooks
}

// turnedOf counts the blocks of each column.
func turnedOf(shape []int) []int {
	var columns []int
	for c := 0; isBlock(shape, 0, c); c++ {
		blocks := 0
		for r := 0; isBlock(shape, r, c); r++ {
			blocks++
		}
		columns = append(columns, blocks)
	}
	return columns
}

// P4.1: the example, and shapes whose hooks are plain
func TestPlainHooks(t *testing.T) {
	for _, c := range []struct {
		shape  []int
		hooks  [][]int
		beads  []int
		turned []int
	}{
		{[]int{4, 2, 1}, [][]int{{6, 4, 2, 1}, {3, 1}, {1}}, []int{6, 3, 1}, []int{3, 2, 1, 1}},
		{nil, nil, nil, nil},
		{[]int{}, nil, nil, nil},
		{[]int{1}, [][]int{{1}}, []int{1}, []int{1}},
		{[]int{5}, [][]int{{5, 4, 3, 2, 1}}, []int{5}, []int{1, 1, 1, 1, 1}},
		{[]int{1, 1, 1}, [][]int{{3}, {2}, {1}}, []int{3, 2, 1}, []int{3}},
		{[]int{2, 2}, [][]int{{3, 2}, {2, 1}}, []int{3, 2}, []int{2, 2}},
		{[]int{3, 2, 1}, [][]int{{5, 3, 1}, {3, 1}, {1}}, []int{5, 3, 1}, []int{3, 2, 1}},
		{[]int{3, 3, 1}, [][]int{{5, 3, 2}, {4, 2, 1}, {1}}, []int{5, 4, 1}, []int{3, 2, 2}},
	} {
		if l, e := blocks.Hooks(c.shape); !same(l, c.hooks) || e != api.OK {
			t.Error(c, l, e)
		}
		if l, e := blocks.Beads(c.shape); !slices.Equal(l, c.beads) || e != api.OK {
			t.Error(c, l, e)
		}
		if l, e := blocks.Turned(c.shape); !slices.Equal(l, c.turned) || e != api.OK {
			t.Error(c, l, e)
		}
	}
}

// P4.1, by walks along each hook, row and column
func TestHooks(t *testing.T) {
	for _, shape := range someShapes() {
		if l, e := blocks.Hooks(shape); !same(l, hooksOf(shape)) || e != api.OK {
			t.Error(shape, l, e)
		}
		var beads []int
		for r, row := range shape {
			beads = append(beads, row+len(shape)-1-r)
		}
		if l, e := blocks.Beads(shape); !slices.Equal(l, beads) || e != api.OK {
			t.Error(shape, l, e)
		}
		want, wanted := turnedOf(shape), api.OK
		if len(want) > 12 {
			want, wanted = nil, api.ErrFull
		}
		if l, e := blocks.Turned(shape); !slices.Equal(l, want) || e != wanted {
			t.Error(shape, l, e)
		}
	}
}

// P4.1
func TestTurnedIsFull(t *testing.T) {
	for _, shape := range [][]int{{13}, {14}, {40}, {13, 13, 13}, {13, 1, 1}, {20, 20}} {
		if l, e := blocks.Turned(shape); len(l) != 0 || e != api.ErrFull {
			t.Error(shape, l, e)
		}
	}
	for _, list := range [][]int{{41}, {13, 14}, {13, 0}, {21, 20}} { // ErrArg is first
		if l, e := blocks.Turned(list); len(l) != 0 || e != api.ErrArg {
			t.Error(list, l, e)
		}
	}
	for _, shape := range [][]int{{12}, {12, 12, 12}, {12, 11, 10, 7}} {
		if l, e := blocks.Turned(shape); len(l) != 12 || e != api.OK {
			t.Error(shape, l, e)
		}
	}
}

// waysOf takes the blocks off one by one; known has what was found before, by
// the rows as a string.
func waysOf(shape []int, known map[string]int) int {
	if len(shape) == 0 {
		return 1
	}
	key := ""
	for _, row := range shape {
		key += string(rune(row))
	}
	if ways, ok := known[key]; ok {
		return ways
	}
	ways := 0
	for r := range shape {
		if r+1 < len(shape) && shape[r] == shape[r+1] {
			continue
		}
		fewer := slices.Clone(shape)
		fewer[r]--
		if fewer[r] == 0 {
			fewer = fewer[:r]
		}
		ways += waysOf(fewer, known)
	}
	known[key] = ways
	return ways
}

// P4.6: the examples, and shapes whose ways are plain
func TestPlainWays(t *testing.T) {
	for _, c := range []struct {
		shape []int
		want  int
	}{
		{[]int{2, 1}, 2}, {[]int{3, 2}, 5}, {nil, 1}, {[]int{1}, 1}, {[]int{1, 1}, 1}, {[]int{20}, 1}, {repeated(1, 12), 1}, {[]int{2, 2}, 2}, {[]int{3, 1}, 3},
		{[]int{9, 1, 1, 1, 1, 1, 1, 1, 1, 1, 1, 1}, 75582}, // 19 over 11: which blocks are below the first one
		{[]int{10, 10}, 16796}, {[]int{4, 3, 2, 1}, 768}, {[]int{5, 5, 5, 5}, 1662804},
	} {
		if n, e := blocks.Ways(c.shape); n != c.want || e != api.OK {
			t.Error(c, n, e)
		}
	}
}

// P4.6, by all ways
func TestWays(t *testing.T) {
	known := map[string]int{}
	for _, shape := range smallShapes(20) {
		if n, e := blocks.Ways(shape); n != waysOf(shape, known) || e != api.OK {
			t.Error(shape, n, e)
		}
	}
}

// P4.6
func TestWaysIsFull(t *testing.T) {
	full := slices.DeleteFunc(slices.Concat(fullShapes, randomShapes(100)), func(shape []int) bool { return countOf(shape) <= 20 })
	for _, shape := range append(full, []int{21}, []int{11, 10}, []int{6, 5, 4, 3, 2, 1}, []int{20, 1}) {
		if n, e := blocks.Ways(shape); n != 0 || e != api.ErrFull {
			t.Error(shape, n, e)
		}
	}
	for _, list := range [][]int{{20, 21}, {41}, {22, 0}, {21, 20}, repeated(2, 13)} { // ErrArg is first
		if n, e := blocks.Ways(list); n != 0 || e != api.ErrArg {
			t.Error(list, n, e)
		}
	}
}

// P4.11
func TestHookFormula(t *testing.T) {
	for _, shape := range smallShapes(20) {
		hooks, e := blocks.Hooks(shape)
		ways, f := blocks.Ways(shape)
		if e != api.OK || f != api.OK {
			t.Fatal(shape, e, f)
		}
		for _, row := range hooks {
			for _, hook := range row {
				ways *= hook
			}
		}
		all := 1
		for block := range countOf(shape) {
			all *= block + 1
		}
		if ways != all {
			t.Error(shape, hooks, ways, all)
		}
	}
}
