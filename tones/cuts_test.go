package tones_test

import (
	"slices"
	"testing"

	"cloche/api"
	"cloche/tones"
)

// P8.5: plain ones
func TestPlainCuts(t *testing.T) {
	for _, c := range []struct {
		frame []int
		knot  int
		want  []int
	}{
		{row(4), 0, row(3)},
		{row(4), 1, []int{0, 4, 2}},
		{row(4), 3, row(3)},
		{wire, 0, bare(1)},
		{bare(2), 1, bare(1)},
		{star(7), 0, bare(6)},
		{full(7), 3, full(6)},
		{ring(7), 6, row(6)},
		{[]int{6, 1, 9, 4}, 2, []int{2, 1, 0}},
	} {
		if got, e := tones.Without(c.frame, c.knot); !slices.Equal(got, c.want) || e != api.OK {
			t.Error(c, got, e)
		}
	}
	for _, c := range []struct {
		frame []int
		a, b  int
		want  []int
	}{
		{wire, 0, 1, bare(2)},
		{row(4), 2, 1, []int{2, 1, 8, 4}},
		{row(4), 1, 2, []int{2, 1, 8, 4}},
		{ring(7), 0, 6, row(7)},
		{triangle, 0, 1, []int{4, 4, 3}},
	} {
		if got, e := tones.Cut(c.frame, c.a, c.b); !slices.Equal(got, c.want) || e != api.OK {
			t.Error(c, got, e)
		}
	}
	for _, c := range []struct {
		frame []int
		want  bool
	}{
		{bare(1), true}, {bare(2), false}, {wire, true}, {triangle, false}, {star(7), true}, {row(7), true}, {ring(7), false},
		{square, false}, {frameOf(4, wires(0, 1, 1, 2, 2, 0)), false}, {frameOf(4, wires(0, 1, 2, 3)), false}, {rings, false}, {grid, false},
		{frameOf(7, wires(0, 1, 1, 2, 2, 0, 3, 4, 4, 5, 5, 6)), false}, {frameOf(7, wires(6, 0, 0, 5, 5, 1, 1, 4, 4, 2, 2, 3)), true},
	} {
		if got, e := tones.IsTree(c.frame); got != c.want || e != api.OK {
			t.Error(c, got, e)
		}
	}
}

// P8.5: Without by the wires that stay, with new numbers for their ends
func TestWithout(t *testing.T) {
	no, none := refused(t, api.ErrArg), refused(t, api.ErrState)
	for _, frame := range someFrames(200, 40) {
		n := len(frame)
		for knot := range n {
			if n == 1 {
				none(noneOf(tones.Without(frame, knot)))
				continue
			}
			var list []api.Pair
			for _, wire := range wiresOf(frame) {
				if wire.A == knot || wire.B == knot {
					continue
				}
				if wire.A > knot {
					wire.A--
				}
				if wire.B > knot {
					wire.B--
				}
				list = append(list, wire)
			}
			if got, e := tones.Without(frame, knot); !slices.Equal(got, frameOf(n-1, list)) || e != api.OK {
				t.Error(frame, knot, got, e)
			}
		}
		for _, knot := range append([]int{n, n + 1}, noNumbers...) {
			no(noneOf(tones.Without(frame, knot)))
		}
	}
}

// P8.5: Cut by the wires that stay
func TestCut(t *testing.T) {
	no, none := refused(t, api.ErrArg), refused(t, api.ErrNone)
	for _, frame := range someFrames(200, 41) {
		n, list := len(frame), wiresOf(frame)
		for a := range n {
			for b := range n {
				at := slices.Index(list, api.Pair{A: min(a, b), B: max(a, b)})
				if at < 0 {
					none(noneOf(tones.Cut(frame, a, b)))
					continue
				}
				want := frameOf(n, slices.Concat(list[:at], list[at+1:]))
				if got, e := tones.Cut(frame, a, b); !slices.Equal(got, want) || e != api.OK {
					t.Error(frame, a, b, got, e)
				}
			}
		}
		for _, knot := range append([]int{n, n + 1}, noNumbers...) {
			for _, ends := range wires(0, knot, knot, 0, knot, knot, n-1, knot) {
				no(noneOf(tones.Cut(frame, ends.A, ends.B)))
			}
		}
	}
}

// hasNoRing takes off knots with one wire, until there is none.
func hasNoRing(frame []int) bool {
	left := slices.Clone(frame)
	for range frame {
		for knot, others := range left {
			for other := range left {
				if others == 1<<other {
					left[knot] = 0
					left[other] &^= 1 << knot
				}
			}
		}
	}
	return slices.Equal(left, bare(len(frame)))
}

// joinedAll joins the knots, each by each.
func joinedAll(frame []int) bool {
	far := slices.Clone(frame)
	for by := range far {
		for knot := range far {
			if far[knot]>>by&1 == 1 {
				far[knot] |= far[by]
			}
		}
	}
	for knot := range far {
		if far[knot]|1<<knot != 1<<len(frame)-1 {
			return false
		}
	}
	return true
}

// P8.5: IsTree by taking knots off, and the number of trees (Cayley)
func TestIsTree(t *testing.T) {
	for _, frame := range someFrames(1000, 42) {
		if got, e := tones.IsTree(frame); got != (hasNoRing(frame) && joinedAll(frame)) || e != api.OK {
			t.Error(frame, got, e)
		}
	}
	for n, want := range []int{0, 1, 1, 3, 16, 125, 1296} {
		trees := 0
		for _, frame := range allFrames(n) {
			if is, _ := tones.IsTree(frame); is {
				trees++
			}
		}
		if trees != want {
			t.Error(n, trees)
		}
	}
}
