package discs_test

import (
	"math"
	"slices"
	"testing"

	"cloche/api"
	"cloche/discs"
)

// discsByLists makes the discs of a root as the Types of the chapter say, with
// all lists of at most steps numbers.
func discsByLists(root api.Quad, most, steps int) []int {
	bends := slices.Clone(root[:])
	var walk func(q api.Quad, last, left int)
	walk = func(q api.Quad, last, left int) {
		for i := range q {
			if left > 0 && i != last {
				next := q
				next[i] = 2*(q[0]+q[1]+q[2]+q[3]-q[i]) - q[i]
				bends = append(bends, next[i])
				walk(next, i, left-1)
			}
		}
	}
	walk(root, -1, steps)
	bends = slices.DeleteFunc(bends, func(b int) bool { return b > most })
	slices.Sort(bends)
	return bends
}

// P1.6
func TestDiscs(t *testing.T) {
	want := []int{-1, 2, 2, 3, 3, 6, 6, 6, 6, 11, 11, 11, 11, 14, 14, 14, 14, 15, 15}
	for _, q := range []api.Quad{small, {15, 2, 2, 3}, {3, -1, 2, 2}, {927, 38, 110, 323}} {
		if l, e := discs.Discs(q, 15); !slices.Equal(l, want) || e != api.OK {
			t.Error(q, l, e)
		}
	}
	for _, c := range []struct {
		q    api.Quad
		most int
		want []int
	}{
		{small, 1, []int{-1}},
		{small, 2, []int{-1, 2, 2}},
		{api.Quad{-2, 3, 6, 7}, 7, []int{-2, 3, 6, 7, 7}},
		{api.Quad{-1 << 30, 1 << 31, 1 << 31, 3 << 30}, api.MaxMost, []int{-1 << 30}},
	} {
		if l, e := discs.Discs(c.q, c.most); !slices.Equal(l, c.want) || e != api.OK {
			t.Error(c, l, e)
		}
	}
	for n := 1; n <= 6; n++ {
		roots, _ := discs.Roots(n)
		for _, root := range roots {
			for _, most := range []int{n, 3 * n, 8 * n} {
				want := discsByLists(root, most, 9)
				if l, e := discs.Discs(root, most); !slices.Equal(l, want) || e != api.OK {
					t.Error(root, most, l, e, want)
				}
			}
		}
	}
	if l, e := discs.Discs(small, api.MaxMost); len(l) != 13965 || l[13964] > api.MaxMost || e != api.OK {
		t.Error(len(l), e)
	}
}

// P1.6
func TestDiscsErrors(t *testing.T) {
	endless := api.Quad{0, 1, 4, 9}
	for _, c := range []struct {
		q    api.Quad
		most int
		e    api.Errno
	}{
		{small, 0, api.ErrArg},
		{small, -1, api.ErrArg},
		{small, api.MaxMost + 1, api.ErrArg},
		{small, math.MinInt, api.ErrArg},
		{small, math.MaxInt, api.ErrArg},
		{api.Quad{1, 2, 3, 4}, 15, api.ErrArg},
		{endless, 0, api.ErrArg},
		{endless, 1, api.ErrState},
		{endless, api.MaxMost, api.ErrState},
		{api.Quad{0, 0, 1, 1}, 15, api.ErrState},
		{api.Quad{4, 1, 1, 0}, 15, api.ErrState},
		{api.Quad{4, 1, 9, 12 + 4*4}, 15, api.ErrState},
	} {
		if l, e := discs.Discs(c.q, c.most); len(l) != 0 || e != c.e {
			t.Error(c, l, e)
		}
	}
	for _, q := range noQuads {
		if l, e := discs.Discs(q, 15); len(l) != 0 || e != api.ErrArg {
			t.Error(q, l, e)
		}
	}
	l, _ := discs.Discs(small, 15)
	clear(l)
	if l, _ = discs.Discs(small, 15); l[0] != -1 {
		t.Error("not new memory:", l)
	}
}

func mod24(bend int) int { return ((bend % 24) + 24) % 24 }

// restsByWalks takes the bends modulo 24 of the quads that are reached by at
// most steps turns.
func restsByWalks(q api.Quad, steps int) []int {
	found := map[int]bool{}
	for _, bend := range discsByLists(q, math.MaxInt, steps) {
		found[mod24(bend)] = true
	}
	var rests []int
	for r := range 24 {
		if found[r] {
			rests = append(rests, r)
		}
	}
	return rests
}

// P1.7
func TestRests(t *testing.T) {
	for _, c := range []struct {
		q    api.Quad
		want []int
	}{
		{small, []int{2, 3, 6, 11, 14, 15, 18, 23}},
		{api.Quad{15, 38, 2, 3}, []int{2, 3, 6, 11, 14, 15, 18, 23}},
		{api.Quad{-2, 4, 4, 6}, []int{4, 6, 12, 22}},
		{api.Quad{-6, 12, 12, 18}, []int{12, 18}},
		{api.Quad{-24, 48, 48, 72}, []int{0}},
		{api.Quad{0, 0, 1, 1}, []int{0, 1, 4, 9, 12, 16}},
		{api.Quad{0, 0, api.MaxBend, api.MaxBend}, []int{0, 16}}, // turned bends are out of range
	} {
		if l, e := discs.Rests(c.q); !slices.Equal(l, c.want) || e != api.OK {
			t.Error(c, l, e)
		}
	}
	for n := 1; n <= 8; n++ {
		roots, _ := discs.Roots(n)
		for _, q := range roots {
			if l, e := discs.Rests(q); !slices.Equal(l, restsByWalks(q, 9)) || e != api.OK {
				t.Error(q, l, e, restsByWalks(q, 9))
			}
		}
	}
	for _, q := range noQuads {
		if l, e := discs.Rests(q); len(l) != 0 || e != api.ErrArg {
			t.Error(q, l, e)
		}
	}
	l, _ := discs.Rests(small)
	clear(l)
	if l, _ = discs.Rests(small); l[0] != 2 {
		t.Error("not new memory:", l)
	}
}

// together is the greatest number that divides all four.
func together(q api.Quad) int {
	divisor := 0
	for _, b := range q {
		for b != 0 {
			divisor, b = b, divisor%b
		}
	}
	return max(divisor, -divisor)
}

// P1.12
func TestSixOrEightRests(t *testing.T) {
	for _, q := range someQuads(t) {
		rests, e := discs.Rests(q)
		if e != api.OK || !slices.IsSorted(rests) || len(slices.Compact(slices.Clone(rests))) != len(rests) {
			t.Error(q, rests, e)
		}
		if together(q) == 1 && len(rests) != 6 && len(rests) != 8 {
			t.Error(q, rests)
		}
		for i, bend := range q {
			if !slices.Contains(rests, mod24(bend)) {
				t.Error(q, bend, rests)
			}
			turned, e := discs.Turn(q, i)
			if e != api.OK {
				continue
			}
			if l, _ := discs.Rests(turned); !slices.Equal(l, rests) {
				t.Error(q, i, l, rests)
			}
		}
	}
}

// P1.13
func TestDiscsOfTheRoot(t *testing.T) {
	for _, q := range someQuads(t) {
		root, _, _ := discs.Root(q)
		if root[0] == 0 {
			continue
		}
		rests, _ := discs.Rests(q)
		all, _ := discs.Discs(q, 150)
		for _, most := range []int{1, 10, 100, 150} {
			l, e := discs.Discs(q, most)
			if of, _ := discs.Discs(root, most); !slices.Equal(of, l) || e != api.OK || !slices.IsSorted(l) {
				t.Error(q, most, of, l, e)
			}
			upTo := slices.DeleteFunc(slices.Clone(all), func(b int) bool { return b > most })
			if !slices.Equal(l, upTo) {
				t.Error(q, most, l, upTo)
			}
		}
		for _, bend := range all {
			if !slices.Contains(rests, mod24(bend)) {
				t.Error(q, bend, rests)
			}
		}
	}
}
