package discs_test

import (
	"math"
	"slices"
	"testing"

	"cloche/api"
	"cloche/discs"
)

// rootsOf tries all sorted quads of -n. The equation and what makes a root
// leave b - n <= 2 n / sqrt 3 and c - n <= n n + n.
func rootsOf(n int) []api.Quad {
	var roots []api.Quad
	for b := -n; b <= 3*n; b++ {
		for c := b; c <= n*n+3*n; c++ {
			square := -n*b - n*c + b*c
			root := int(math.Round(math.Sqrt(float64(max(square, 0)))))
			if root*root != square {
				continue
			}
			for _, d := range slices.Compact([]int{b + c - n - 2*root, b + c - n + 2*root}) {
				if q := (api.Quad{-n, b, c, d}); isRoot(q) {
					roots = append(roots, q)
				}
			}
		}
	}
	return roots
}

// P1.4
func TestRoots(t *testing.T) {
	for n, want := range map[int][]api.Quad{
		1: {small},
		2: {{-2, 3, 6, 7}, {-2, 4, 4, 6}},
		3: {{-3, 4, 12, 13}, {-3, 5, 8, 8}, {-3, 6, 6, 9}},
	} {
		if l, e := discs.Roots(n); !slices.Equal(l, want) || e != api.OK {
			t.Error(n, l, e)
		}
	}
	for n := 1; n <= api.MaxRoot; n++ {
		l, e := discs.Roots(n)
		if e != api.OK || len(l) == 0 {
			t.Error(n, l, e)
		}
		if !slices.IsSortedFunc(l, func(a, b api.Quad) int { return slices.Compare(a[:], b[:]) }) {
			t.Error("not in order:", n, l)
		}
		if n > 30 && n < api.MaxRoot {
			continue
		}
		if want := rootsOf(n); !slices.Equal(l, want) {
			t.Error(n, l, want)
		}
	}
	for _, n := range []int{0, -1, api.MaxRoot + 1, math.MinInt, math.MaxInt} {
		if l, e := discs.Roots(n); len(l) != 0 || e != api.ErrArg {
			t.Error(n, l, e)
		}
	}
	l, _ := discs.Roots(2)
	l[0] = api.Quad{}
	if l, _ = discs.Roots(2); l[0] != (api.Quad{-2, 3, 6, 7}) {
		t.Error("not new memory:", l)
	}
}

// P1.5
func TestFourth(t *testing.T) {
	const most = api.MaxShort
	for _, c := range []struct {
		a, b, c, x, y int
		e             api.Errno
	}{
		{-1, 2, 2, 3, 3, api.OK},
		{2, 2, 3, -1, 15, api.OK},
		{3, 2, 2, -1, 15, api.OK},
		{2, 3, 2, -1, 15, api.OK},
		{0, 0, 1, 1, 1, api.OK},
		{1, 0, 1, 0, 4, api.OK},
		{0, 0, most, most, most, api.OK},
		{most, 0, most, 0, 4 * most, api.OK},
		{699050, 699050, 1048575, -349525, 15 * 349525, api.OK},
		{1, 1, 1, 0, 0, api.ErrPlan},
		{-1, 1, 1, 0, 0, api.ErrPlan},
		{-1, -1, 5, 0, 0, api.ErrPlan},
		{0, 0, 0, 0, 0, api.ErrPlan},
		{0, 0, -1, 0, 0, api.ErrPlan},
		{-2, -2, -3, 0, 0, api.ErrPlan},
		{most, most, most, 0, 0, api.ErrPlan},
		{-most, -most, -most, 0, 0, api.ErrPlan},
		{-most, most, most, 0, 0, api.ErrPlan},
		{most + 1, 0, 0, 0, 0, api.ErrArg},
		{0, most + 1, 0, 0, 0, api.ErrArg},
		{0, 0, most + 1, 0, 0, api.ErrArg},
		{-most - 1, 0, 0, 0, 0, api.ErrArg},
		{0, -most - 1, 0, 0, 0, api.ErrArg},
		{0, 0, -most - 1, 0, 0, api.ErrArg},
		{math.MinInt, math.MinInt, math.MinInt, 0, 0, api.ErrArg},
		{math.MaxInt, 1, math.MinInt, 0, 0, api.ErrArg},
	} {
		if x, y, e := discs.Fourth(c.a, c.b, c.c); x != c.x || y != c.y || e != c.e {
			t.Error(c, x, y, e)
		}
	}
	const least, last = -5, 9
	for a := least; a <= last; a++ {
		for b := least; b <= last; b++ {
			for c := least; c <= last; c++ {
				var want []int
				for d := -20; d <= 70; d++ { // a + b + c is at most 27, and the root at most 15.6
					if isQuad(api.Quad{a, b, c, d}) {
						want = append(want, d)
					}
				}
				x, y, e := discs.Fourth(a, b, c)
				if len(want) == 0 {
					want = []int{0, 0}
					if e != api.ErrPlan {
						t.Error(a, b, c, e)
					}
				} else if e != api.OK {
					t.Error(a, b, c, e)
				}
				if x != want[0] || y != want[len(want)-1] {
					t.Error(a, b, c, x, y, want)
				}
			}
		}
	}
}

// P1.11
func TestRootsAreKnown(t *testing.T) {
	for n := 1; n <= api.MaxRoot; n++ {
		var want []api.Quad
		for m := 0; m <= n; m++ {
			for x := 1; x <= n*n+m*m; x++ {
				y := (n*n + m*m) / x
				if x*y == n*n+m*m && 2*m <= x && x <= y {
					want = append(want, api.Quad{-n, x + n, y + n, x + y + n - 2*m})
				}
			}
		}
		slices.SortFunc(want, func(a, b api.Quad) int { return slices.Compare(a[:], b[:]) })
		l, e := discs.Roots(n)
		if !slices.Equal(l, want) || e != api.OK {
			t.Error(n, l, e, want)
		}
		for _, q := range l {
			if !discs.IsRoot(q) || q[0] != -n {
				t.Error(n, q)
			}
		}
	}
}
