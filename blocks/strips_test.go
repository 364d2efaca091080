package blocks_test

import (
	"math/rand"
	"slices"
	"testing"

	"cloche/api"
	"cloche/blocks"
)

// stripsOf takes strips off the rim, from the strip that begins in the first
// row to the one that begins in the last: of the rows from first to last, each
// but the last is cut to one less than the row below it, and the last one loses
// the rest of the t blocks.
func stripsOf(shape []int, t int) [][]int {
	var list [][]int
	for first := range shape {
		for last := first; last < len(shape); last++ {
			left := slices.Clone(shape)
			for r := first; r < last; r++ {
				left[r] = shape[r+1] - 1
			}
			left[last] -= t - (countOf(shape) - countOf(left))
			below := 0
			if last+1 < len(shape) {
				below = shape[last+1]
			}
			if left[last] >= below && left[last] < shape[last] {
				list = append(list, slices.DeleteFunc(left, func(row int) bool { return row == 0 }))
			}
		}
	}
	return list
}

// cut takes strips off, with the one that choose names, until none is left.
func cut(shape []int, t int, choose func(many int) int) ([]int, int) {
	many := 0
	for list := stripsOf(shape, t); len(list) > 0; list = stripsOf(shape, t) {
		shape = list[choose(len(list))]
		many++
	}
	return shape, many
}

// P4.2: the examples, and shapes whose strips are plain
func TestPlainStrips(t *testing.T) {
	for _, c := range []struct {
		shape  []int
		t      int
		strips [][]int
		core   []int
		many   int
	}{
		{[]int{4, 2, 1}, 2, [][]int{{2, 2, 1}}, []int{1}, 3},
		{[]int{4, 2, 1}, 3, [][]int{{4}}, []int{1}, 2},
		{[]int{4, 2, 1}, 4, [][]int{{1, 1, 1}}, []int{1, 1, 1}, 1},
		{[]int{4, 2, 1}, 5, nil, []int{4, 2, 1}, 0},
		{[]int{4, 2, 1}, 6, [][]int{{1}}, []int{1}, 1},
		{nil, 2, nil, nil, 0},
		{[]int{}, 6, nil, nil, 0},
		{[]int{1}, 2, nil, []int{1}, 0},
		{[]int{2}, 2, [][]int{nil}, nil, 1}, // no block is left
		{[]int{1, 1}, 2, [][]int{nil}, nil, 1},
		{[]int{2, 2}, 2, [][]int{{1, 1}, {2}}, nil, 2},
		{[]int{4, 4, 2, 2}, 2, [][]int{{3, 3, 2, 2}, {4, 2, 2, 2}, {4, 4, 1, 1}, {4, 4, 2}}, nil, 6}, // the greatest bead first
		{[]int{3, 2, 1}, 2, nil, []int{3, 2, 1}, 0},
		{[]int{3, 2, 1}, 3, [][]int{{1, 1, 1}, {3}}, nil, 2},
		{[]int{40}, 6, [][]int{{34}}, []int{4}, 6},
		{repeated(1, 12), 5, [][]int{repeated(1, 7)}, []int{1, 1}, 2},
		{[]int{8, 7, 6, 5, 4, 3, 2, 1}, 2, nil, []int{8, 7, 6, 5, 4, 3, 2, 1}, 0},
	} {
		if l, e := blocks.Strips(c.shape, c.t); !same(l, c.strips) || e != api.OK {
			t.Error(c, l, e)
		}
		if l, n, e := blocks.Core(c.shape, c.t); !slices.Equal(l, c.core) || n != c.many || e != api.OK {
			t.Error(c, l, n, e)
		}
		if ok, e := blocks.IsCore(c.shape, c.t); ok != (len(c.strips) == 0) || e != api.OK {
			t.Error(c, ok, e)
		}
	}
}

// P4.2, by strips that are taken off the rim, in several orders
func TestStrips(t *testing.T) {
	r := rand.New(rand.NewSource(2))
	for _, shape := range someShapes() {
		for wires := 2; wires <= 6; wires++ {
			want := stripsOf(shape, wires)
			if l, e := blocks.Strips(shape, wires); !same(l, want) || e != api.OK {
				t.Error(shape, wires, l, e, want)
			}
			core, many, e := blocks.Core(shape, wires)
			for _, choose := range []func(int) int{r.Intn, func(int) int { return 0 }, func(many int) int { return many - 1 }} {
				if left, strips := cut(shape, wires, choose); !slices.Equal(core, left) || many != strips || e != api.OK {
					t.Error(shape, wires, core, many, e, left, strips)
				}
			}
			if ok, e := blocks.IsCore(shape, wires); ok != (len(want) == 0) || e != api.OK {
				t.Error(shape, wires, ok, e)
			}
		}
	}
}

// P4.2, by the words of the chapter: a bead is moved to where none is.
func TestStripsMoveABead(t *testing.T) {
	for _, shape := range someShapes() {
		beads, _ := blocks.Beads(shape)
		for wires := 2; wires <= 6; wires++ {
			strips, _ := blocks.Strips(shape, wires)
			for _, bead := range beads {
				if bead < wires || slices.Contains(beads, bead-wires) {
					continue
				}
				if len(strips) == 0 {
					t.Error(shape, wires, bead)
					break
				}
				left := append(slices.Clone(strips[0]), make([]int, len(shape)-len(strips[0]))...)
				strips = strips[1:]
				var after []int
				for r, row := range left {
					after = append(after, row+len(left)-1-r)
				}
				before := slices.DeleteFunc(slices.Clone(beads), func(one int) bool { return one == bead })
				before = append(before, bead-wires)
				slices.Sort(before)
				slices.Reverse(before)
				if !slices.Equal(before, after) {
					t.Error(shape, wires, bead, before, after)
				}
			}
			if len(strips) > 0 {
				t.Error(shape, wires, strips)
			}
		}
	}
}

// P4.7
func TestNakayama(t *testing.T) {
	for _, shape := range someShapes() {
		for wires := 2; wires <= 6; wires++ {
			core, many, _ := blocks.Core(shape, wires)
			strips, _ := blocks.Strips(shape, wires)
			for _, left := range strips {
				if l, n, e := blocks.Core(left, wires); !slices.Equal(l, core) || n != many-1 || e != api.OK {
					t.Error(shape, wires, left, l, n, e)
				}
			}
		}
	}
}

// P4.9
func TestHooksAndStrips(t *testing.T) {
	for _, shape := range someShapes() {
		hooks, _ := blocks.Hooks(shape)
		all := slices.Concat(hooks...)
		for wires := 2; wires <= 6; wires++ {
			divisible, equal := 0, 0
			for _, hook := range all {
				if hook%wires == 0 {
					divisible++
				}
				if hook == wires {
					equal++
				}
			}
			_, many, _ := blocks.Core(shape, wires)
			strips, _ := blocks.Strips(shape, wires)
			is, _ := blocks.IsCore(shape, wires)
			if many != divisible || len(strips) != equal || is != (divisible == 0) || is != (equal == 0) {
				t.Error(shape, wires, many, divisible, len(strips), equal, is)
			}
		}
	}
}

// coresOf returns the shapes off which no strip can be taken.
func coresOf(shapes [][]int, t int) [][]int {
	return slices.DeleteFunc(slices.Clone(shapes), func(shape []int) bool { return len(stripsOf(shape, t)) > 0 })
}

// P4.5: some plain lists
func TestPlainCores(t *testing.T) {
	for _, c := range []struct {
		n, t int
		want [][]int
	}{
		{0, 2, [][]int{nil}}, {0, 6, [][]int{nil}}, {1, 2, [][]int{{1}}}, {2, 2, nil}, {3, 2, [][]int{{2, 1}}}, {3, 3, nil},
		{2, 3, [][]int{{1, 1}, {2}}},
		{4, 3, [][]int{{2, 1, 1}, {3, 1}}},
		{4, 5, [][]int{{1, 1, 1, 1}, {2, 1, 1}, {2, 2}, {3, 1}, {4}}},
	} {
		if l, e := blocks.Cores(c.n, c.t); !same(l, c.want) || e != api.OK {
			t.Error(c, l, e)
		}
	}
}

// P4.5, by all shapes
func TestCores(t *testing.T) {
	for n, shapes := range allShapes(20) {
		for wires := 2; wires <= 6; wires++ {
			want := coresOf(shapes, wires)
			l, e := blocks.Cores(n, wires)
			if !same(l, want) || e != api.OK {
				t.Error(n, wires, l, e, want)
			}
			for _, core := range l {
				clear(core) // new memory: no later call shows it
			}
			if again, _ := blocks.Cores(n, wires); !same(again, want) {
				t.Error(n, wires, again, want)
			}
		}
	}
}

// P4.5: the numbers of cores are those of the product of
// (1 - q^(ti))^t / (1 - q^i), for all i from 1 on; none has too many rows.
func TestCoresAreCounted(t *testing.T) {
	for wires := 2; wires <= 6; wires++ {
		var series [21]int
		series[0] = 1
		for i := 1; i <= 20; i++ {
			for n := i; n <= 20; n++ {
				series[n] += series[n-i]
			}
		}
		for i := wires; i <= 20; i += wires {
			for range wires {
				for n := 20; n >= i; n-- {
					series[n] -= series[n-i]
				}
			}
		}
		for n, want := range series {
			if l, e := blocks.Cores(n, wires); len(l) != want || e != api.OK {
				t.Error(n, wires, l, e, want)
			}
		}
	}
}

// P4.5
func TestNoCores(t *testing.T) {
	for _, wires := range append(noWires, 2, 3, 4, 5, 6) {
		for _, n := range append(noWires, 20, 21) {
			want := api.OK
			if n < 0 || n > 20 || wires < 2 || wires > 6 {
				want = api.ErrArg
			}
			if l, e := blocks.Cores(n, wires); e != want || len(l) > 0 && e != api.OK {
				t.Error(n, wires, l, e)
			}
		}
	}
}

// P4.12
func TestCoresOfTwo(t *testing.T) {
	stairs := map[int][]int{0: nil, 1: {1}, 3: {2, 1}, 6: {3, 2, 1}, 10: {4, 3, 2, 1}, 15: {5, 4, 3, 2, 1}}
	for n := range 21 {
		var want [][]int
		if stair, ok := stairs[n]; ok {
			want = [][]int{stair}
		}
		if l, e := blocks.Cores(n, 2); !same(l, want) || e != api.OK {
			t.Error(n, l, e)
		}
	}
	for _, shape := range someShapes() {
		is := true
		for r, row := range shape {
			is = is && row == len(shape)-r
		}
		if ok, e := blocks.IsCore(shape, 2); ok != is || e != api.OK {
			t.Error(shape, ok, e)
		}
	}
}
