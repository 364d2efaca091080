package blocks_test

import (
	"math"
	"slices"
	"testing"

	"cloche/api"
	"cloche/blocks"
)

// quotientOf goes through the numbers from 0 on and says of each whether it is a
// bead: the rows of the k-th shape have as many blocks as there are numbers with
// the remainder k below their beads that are not beads.
func quotientOf(shape []int, t int) [][]int {
	rows := slices.Clone(shape)
	for len(rows)%t != 0 {
		rows = append(rows, 0)
	}
	isBead := map[int]bool{}
	for r, row := range rows {
		isBead[row+len(rows)-1-r] = true
	}
	quotient := make([][]int, t)
	for k := range t {
		gaps := 0
		for number := k; number < 60; number += t {
			if !isBead[number] {
				gaps++
			} else if gaps > 0 {
				quotient[k] = append([]int{gaps}, quotient[k]...)
			}
		}
	}
	return quotient
}

// stairs returns the core for two wires with k rows.
func stairs(k int) []int {
	var shape []int
	for row := k; row > 0; row-- {
		shape = append(shape, row)
	}
	return shape
}

// P4.3: the examples, and shapes whose quotients are plain
func TestPlainQuotients(t *testing.T) {
	for _, c := range []struct {
		shape []int
		t     int
		want  [][]int
	}{
		{[]int{4, 2, 1}, 2, [][]int{nil, {3}}},
		{[]int{4, 2, 1}, 3, [][]int{{1, 1}, nil, nil}},
		{[]int{4, 2, 1}, 4, [][]int{nil, nil, nil, {1}}},
		{nil, 2, make([][]int, 2)},
		{[]int{}, 6, make([][]int, 6)},
		{[]int{1}, 3, make([][]int, 3)},
		{[]int{5}, 5, [][]int{nil, nil, nil, nil, {1}}},
		{[]int{1, 1, 1, 1, 1}, 5, [][]int{{1}, nil, nil, nil, nil}},
		{[]int{2, 2}, 2, [][]int{{1}, {1}}},
		{[]int{40}, 2, [][]int{nil, {20}}},
		{[]int{40}, 6, [][]int{nil, nil, nil, {6}, nil, nil}},
		{repeated(1, 12), 2, [][]int{{1, 1, 1, 1, 1, 1}, nil}},
		{repeated(1, 12), 5, [][]int{nil, nil, nil, {1, 1}, nil}}, // three rows more
		{stairs(8), 2, make([][]int, 2)},
	} {
		if l, e := blocks.Quotient(c.shape, c.t); !same(l, c.want) || e != api.OK {
			t.Error(c, l, e)
		}
	}
}

// P4.3
func TestQuotient(t *testing.T) {
	for _, shape := range someShapes() {
		for wires := 2; wires <= 6; wires++ {
			l, e := blocks.Quotient(shape, wires)
			if !same(l, quotientOf(shape, wires)) || e != api.OK {
				t.Error(shape, wires, l, e)
			}
			for _, part := range l {
				if !blocks.IsShape(part) {
					t.Error(shape, wires, part)
				}
			}
		}
	}
}

// fewer returns the quotients with one block less.
func fewer(quotient [][]int) [][][]int {
	var list [][][]int
	for k, part := range quotient {
		for r := range part {
			if r+1 < len(part) && part[r] == part[r+1] {
				continue
			}
			less := copied(quotient)
			less[k][r]--
			if less[k][r] == 0 {
				less[k] = less[k][:r]
			}
			list = append(list, less)
		}
	}
	return list
}

// P4.3: what is taken off is told by the quotient: a strip is a block of it.
func TestStripsAreBlocksOfTheQuotient(t *testing.T) {
	for _, shape := range someShapes() {
		for wires := 2; wires <= 6; wires++ {
			quotient, _ := blocks.Quotient(shape, wires)
			less := fewer(quotient)
			strips, _ := blocks.Strips(shape, wires)
			if len(strips) != len(less) {
				t.Error(shape, wires, strips, less)
			}
			for _, left := range strips {
				l, _ := blocks.Quotient(left, wires)
				if !slices.ContainsFunc(less, func(one [][]int) bool { return same(one, l) }) {
					t.Error(shape, wires, left, l, less)
				}
			}
		}
	}
}

// P4.4: some plain shapes
func TestPlainOf(t *testing.T) {
	for _, c := range []struct {
		core     []int
		quotient [][]int
		want     []int
	}{
		{[]int{1}, [][]int{nil, {3}}, []int{4, 2, 1}},
		{[]int{1}, [][]int{{1, 1}, nil, nil}, []int{4, 2, 1}},
		{[]int{1, 1, 1}, [][]int{nil, nil, nil, {1}}, []int{4, 2, 1}},
		{nil, make([][]int, 2), nil},
		{[]int{}, make([][]int, 6), nil},
		{[]int{2, 1}, [][]int{{}, {}}, []int{2, 1}},
		{nil, [][]int{nil, {1}}, []int{2}},
		{nil, [][]int{{1}, nil}, []int{1, 1}},
		{nil, [][]int{{1}, {1}}, []int{2, 2}},
		{nil, [][]int{nil, {20}}, []int{40}},
		{nil, [][]int{{1, 1, 1, 1, 1, 1}, nil}, repeated(1, 12)},
		{[]int{4}, [][]int{nil, nil, nil, {6}, nil, nil}, []int{40}},
		{stairs(8), make([][]int, 2), stairs(8)},
	} {
		if l, e := blocks.Of(c.core, c.quotient); !slices.Equal(l, c.want) || e != api.OK {
			t.Error(c, l, e)
		}
	}
}

// P4.4
func TestNoCoreAndQuotient(t *testing.T) {
	for wires := 2; wires <= 6; wires++ {
		for _, list := range noShapes {
			if l, e := blocks.Of(list, make([][]int, wires)); len(l) != 0 || e != api.ErrArg {
				t.Error(list, wires, l, e)
			}
			for k := range wires {
				quotient := make([][]int, wires)
				quotient[k] = list
				if l, e := blocks.Of(nil, quotient); len(l) != 0 || e != api.ErrArg {
					t.Error(list, wires, k, l, e)
				}
			}
		}
		for _, shape := range someShapes() {
			want := api.OK
			if len(stripsOf(shape, wires)) > 0 {
				want = api.ErrArg
			}
			l, e := blocks.Of(shape, make([][]int, wires))
			if e != want || want == api.OK && !slices.Equal(l, shape) || want != api.OK && len(l) != 0 {
				t.Error(shape, wires, l, e)
			}
		}
	}
	for _, wires := range []int{0, 1, 7, 8, 100000} {
		for _, core := range [][]int{nil, {1}, {2, 1}} {
			if l, e := blocks.Of(core, make([][]int, wires)); len(l) != 0 || e != api.ErrArg {
				t.Error(core, wires, l, e)
			}
		}
	}
}

// P4.4: ErrFull comes after the others.
func TestOfIsFull(t *testing.T) {
	for _, c := range []struct {
		core     []int
		quotient [][]int
		want     api.Errno
	}{
		{nil, [][]int{{21}, nil}, api.ErrFull}, // 42 blocks
		{nil, [][]int{{20}, {1}}, api.ErrFull},
		{nil, [][]int{{10}, {10}}, api.OK},
		{[]int{1}, [][]int{nil, {20}}, api.ErrFull}, // 41 blocks
		{[]int{1}, [][]int{nil, {19}}, api.OK},
		{[]int{3, 1}, [][]int{nil, {12}, nil}, api.OK}, // 40 blocks
		{[]int{3, 1}, [][]int{nil, {13}, nil}, api.ErrFull},
		{nil, [][]int{repeated(1, 6), nil}, api.OK},           // 12 rows
		{nil, [][]int{repeated(1, 7), nil}, api.ErrFull},      // 14 rows
		{[]int{1}, [][]int{nil, repeated(1, 6)}, api.ErrFull}, // 13 rows
		{[]int{1}, [][]int{repeated(1, 7), nil}, api.OK},      // 12 rows: 3 2 1 .. 1
		{[]int{2, 1}, [][]int{repeated(1, 5), nil}, api.OK},   // 12 rows: 2 1 .. 1
		{repeated(1, 5), [][]int{{1}, {1}, nil, nil, nil, nil}, api.OK},
		{nil, slices.Repeat([][]int{{40}}, 6), api.ErrFull},
		{nil, slices.Repeat([][]int{{12, 11, 10, 7}}, 6), api.ErrFull},
		{nil, slices.Repeat([][]int{repeated(3, 12)}, 6), api.ErrFull},
		{[]int{7, 5, 3, 3, 2, 2, 1, 1}, [][]int{{40}, {40}, repeated(3, 12)}, api.ErrFull},
		{[]int{7, 5, 4, 3, 2, 2, 1, 1}, [][]int{{40}, {40}, repeated(3, 12)}, api.ErrArg}, // not a core
		{[]int{2}, [][]int{{21}, nil}, api.ErrArg},
		{nil, [][]int{{40}, {0}}, api.ErrArg},
		{nil, [][]int{{40}, {math.MaxInt}}, api.ErrArg},
		{nil, [][]int{{40}}, api.ErrArg},
		{nil, slices.Repeat([][]int{{40}}, 7), api.ErrArg},
		{[]int{1, 2}, [][]int{{40}, {40}}, api.ErrArg},
	} {
		l, e := blocks.Of(c.core, c.quotient)
		if e != c.want || e != api.OK && len(l) != 0 {
			t.Error(c, l, e)
		}
		if e == api.OK && (len(l) > 12 || countOf(l) != countOf(c.core)+len(c.quotient)*countAll(c.quotient)) {
			t.Error(c, l)
		}
	}
}

// addBlocks lets more have all quotients with a number of blocks in the shapes
// from k on.
func addBlocks(bySize [][][]int, quotient [][]int, k, left int, more func([][]int)) {
	if k == len(quotient)-1 {
		for _, shape := range bySize[left] {
			quotient[k] = shape
			more(quotient)
		}
		return
	}
	for size := range left + 1 {
		for _, shape := range bySize[size] {
			quotient[k] = shape
			addBlocks(bySize, quotient, k+1, left-size, more)
		}
	}
}

// P4.4 and P4.8: the cores with all quotients are the shapes with a number of
// blocks, each of them once; where a shape would have more than 12 rows, none.
func TestOfGivesEachShapeOnce(t *testing.T) {
	bySize := allShapes(16)
	all := 0
	for n := range 17 {
		for wires := 2; wires <= 6; wires++ {
			var list [][]int
			full := 0
			for strips := 0; strips*wires <= n; strips++ {
				for _, core := range coresOf(bySize[n-strips*wires], wires) {
					addBlocks(bySize, make([][]int, wires), 0, strips, func(quotient [][]int) {
						shape, e := blocks.Of(core, quotient)
						if e == api.OK {
							list = append(list, shape)
						} else if e == api.ErrFull && len(shape) == 0 {
							full++
						} else {
							t.Error(core, quotient, shape, e)
						}
					})
				}
			}
			slices.SortFunc(list, slices.Compare)
			if !same(list, bySize[n]) {
				t.Error(n, wires, len(list), len(bySize[n]), full)
			}
			all += full
		}
	}
	if all == 0 {
		t.Error("no shape has too many rows")
	}
}

// P4.8
func TestCoreAndQuotient(t *testing.T) {
	for _, shape := range slices.Concat(someShapes(), smallShapes(18)) {
		for wires := 2; wires <= 6; wires++ {
			core, many, e := blocks.Core(shape, wires)
			quotient, f := blocks.Quotient(shape, wires)
			if e != api.OK || f != api.OK {
				t.Fatal(shape, wires, e, f)
			}
			if countOf(shape) != countOf(core)+wires*countAll(quotient) || many != countAll(quotient) {
				t.Error(shape, wires, core, quotient, many)
			}
			if l, e := blocks.Of(core, quotient); !slices.Equal(l, shape) || e != api.OK {
				t.Error(shape, wires, core, quotient, l, e)
			}
		}
	}
}

// P4.10
func TestTurnedCoreAndQuotient(t *testing.T) {
	for _, shape := range someShapes() {
		turned, e := blocks.Turned(shape)
		if e != api.OK {
			continue
		}
		if l, e := blocks.Turned(turned); !slices.Equal(l, shape) || e != api.OK {
			t.Error(shape, turned, l, e)
		}
		hooks, _ := blocks.Hooks(shape)
		across, _ := blocks.Hooks(turned)
		for r, row := range hooks {
			for c, hook := range row {
				if across[c][r] != hook {
					t.Error(shape, r, c, hook, across)
				}
			}
		}
		for wires := 2; wires <= 6; wires++ {
			checkTurned(t, shape, turned, wires)
		}
	}
}

// checkTurned checks what is told of a shape against what is told of it turned.
func checkTurned(t *testing.T, shape, turned []int, wires int) {
	t.Helper()
	core, _, _ := blocks.Core(shape, wires)
	want, e := blocks.Turned(core)
	if l, _, f := blocks.Core(turned, wires); !slices.Equal(l, want) || e != api.OK || f != api.OK {
		t.Error(shape, wires, l, want, e, f)
	}
	quotient, _ := blocks.Quotient(shape, wires)
	opposite, _ := blocks.Quotient(turned, wires)
	for k, part := range quotient {
		want, e := blocks.Turned(part)
		if got := opposite[wires-1-k]; !slices.Equal(got, want) || e != api.OK {
			t.Error(shape, wires, k, got, want, e)
		}
	}
}
