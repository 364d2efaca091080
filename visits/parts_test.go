package visits_test

import (
	"math/bits"
	"slices"
	"testing"

	"cloche/api"
	"cloche/visits"
)

// partsOf finds which hats are reached from each other by closing the relation
// of going with each other, hat by hat.
func partsOf(shop []int, set int) []int {
	n := len(shop)
	reach := make([]int, n)
	for i := range n {
		if set>>i&1 == 0 {
			reach[i] = (shop[i] | 1<<i) &^ set
		}
	}
	for k := range n {
		for i := range n {
			if reach[i]>>k&1 == 1 {
				reach[i] |= reach[k]
			}
		}
	}
	reach = slices.DeleteFunc(reach, func(part int) bool { return part == 0 })
	slices.Sort(reach)
	return slices.Compact(reach)
}

func oddOf(shop []int, set int) int {
	odd := 0
	for _, part := range partsOf(shop, set) {
		if bits.OnesCount(uint(part))%2 == 1 {
			odd++
		}
	}
	return odd
}

// P3.5: the examples, and shops whose parts are plain
func TestPlainParts(t *testing.T) {
	for _, c := range []struct {
		shop  []int
		set   int
		parts []int
		odd   int
	}{
		{[]int{2, 5, 2}, 0, []int{7}, 1},
		{[]int{2, 5, 2}, 2, []int{1, 4}, 2},
		{[]int{2, 5, 2}, 1, []int{6}, 0},
		{[]int{2, 5, 2}, 7, nil, 0},
		{[]int{0}, 0, []int{1}, 1},
		{[]int{0}, 1, nil, 0},
		{[]int{8, 0, 0, 1}, 0, []int{2, 4, 9}, 2}, // by their numbers, not by their least hats
		{row(4), 2, []int{1, 12}, 1},
		{row(10), 16, []int{15, 992}, 1},
		{make([]int, 10), 0, []int{1, 2, 4, 8, 16, 32, 64, 128, 256, 512}, 10},
		{complete(10), 5, []int{1018}, 0},
		{joined(4, []api.Pair{{A: 0, B: 3}, {A: 1, B: 2}}), 0, []int{6, 9}, 0},
	} {
		if l, e := visits.Parts(c.shop, c.set); !slices.Equal(l, c.parts) || e != api.OK {
			t.Error(c, l, e)
		}
		if n, e := visits.Odd(c.shop, c.set); n != c.odd || e != api.OK {
			t.Error(c, n, e)
		}
	}
	for _, c := range []struct {
		shop      []int
		set, most int
	}{
		{[]int{2, 5, 2}, 0, 1},
		{[]int{6, 5, 3}, 0, 1},
		{[]int{10, 5, 10, 5}, 0, 0},
		{[]int{0}, 0, 1},
		{[]int{14, 1, 1, 1}, 1, 2},
		{[]int{8, 8, 8, 7}, 8, 2},
		{make([]int, 10), 0, 10},
		{complete(10), 0, 0},
		{sides(10, 1), 1, 8},
		{sides(10, 3), 7, 4},
		{sides(10, 5), 0, 0},
		{sides(9, 4), 0, 1}, // 15 too, but 0 is less
		{row(9), 0, 1},
	} {
		if set, most, e := visits.Barrier(c.shop); set != c.set || most != c.most || e != api.OK {
			t.Error(c, set, most, e)
		}
	}
}

// P3.5
func TestParts(t *testing.T) {
	for _, shop := range someShops() {
		barrier, best := -1, 0
		for set := range 1 << len(shop) {
			want, odd := partsOf(shop, set), oddOf(shop, set)
			if more := odd - bits.OnesCount(uint(set)); barrier < 0 || more > best {
				barrier, best = set, more
			}
			if len(shop) > 7 && set%5 != len(shop)%5 {
				continue
			}
			l, e := visits.Parts(shop, set)
			if !slices.Equal(l, want) || e != api.OK {
				t.Error(shop, set, l, e, want)
			}
			if n, e := visits.Odd(shop, set); n != odd || e != api.OK {
				t.Error(shop, set, n, e, odd)
			}
			clear(l) // new memory: no later call shows it
			if again, _ := visits.Parts(shop, set); !slices.Equal(again, want) {
				t.Error(shop, set, again)
			}
		}
		if set, most, e := visits.Barrier(shop); set != barrier || most != best || e != api.OK {
			t.Error(shop, set, most, e, barrier, best)
		}
	}
}

// P3.5
func TestNoSets(t *testing.T) {
	for _, shop := range [][]int{{0}, {2, 5, 2}, {10, 5, 10, 5}, complete(10)} {
		n := len(shop)
		for _, set := range append(someNumbers, 1<<n-1, 1<<n, 1<<n+1, -1<<n) {
			want := api.OK
			if set < 0 || set > 1<<n-1 {
				want = api.ErrArg
			}
			if l, e := visits.Parts(shop, set); e != want || len(l) > 0 && e != api.OK {
				t.Error(shop, set, l, e)
			}
			if k, e := visits.Odd(shop, set); e != want || k != 0 && e != api.OK {
				t.Error(shop, set, k, e)
			}
		}
	}
}
