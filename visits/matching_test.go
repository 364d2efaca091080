package visits_test

import (
	"cmp"
	"math"
	"slices"
	"testing"

	"cloche/api"
	"cloche/visits"
)

// pairsOf returns the pairs of hats that go with each other, ascending.
func pairsOf(shop []int) []api.Pair {
	var pairs []api.Pair
	for _, p := range allPairs(len(shop)) {
		if shop[p.A]>>p.B&1 == 1 {
			pairs = append(pairs, p)
		}
	}
	return pairs
}

func hatsOf(pairs []api.Pair) int {
	set := 0
	for _, p := range pairs {
		set |= 1<<p.A | 1<<p.B
	}
	return set
}

// allMatchings returns all matchings of a shop.
func allMatchings(shop []int) [][]api.Pair {
	list := [][]api.Pair{nil}
	for _, p := range pairsOf(shop) {
		for _, pairs := range slices.Clone(list) {
			if hatsOf(pairs)&hatsOf([]api.Pair{p}) == 0 {
				list = append(list, append(slices.Clone(pairs), p))
			}
		}
	}
	return list
}

func comparePairs(a, b api.Pair) int { return cmp.Or(cmp.Compare(a.A, b.A), cmp.Compare(a.B, b.B)) }

// largestMatchings returns all largest matchings, in lexicographic order.
func largestMatchings(shop []int) [][]api.Pair {
	var best [][]api.Pair
	for _, pairs := range allMatchings(shop) {
		if len(best) > 0 && len(pairs) > len(best[0]) {
			best = nil
		}
		if len(best) == 0 || len(pairs) == len(best[0]) {
			best = append(best, pairs)
		}
	}
	slices.SortFunc(best, func(a, b []api.Pair) int { return slices.CompareFunc(a, b, comparePairs) })
	return best
}

func neededOf(shop []int) int {
	needed := 1<<len(shop) - 1
	for _, pairs := range largestMatchings(shop) {
		needed &= hatsOf(pairs)
	}
	return needed
}

// P3.1 and P3.2: the examples, and shops whose matchings are plain
func TestLargestOfPlainShops(t *testing.T) {
	for _, c := range []struct {
		shop   []int
		want   []api.Pair
		needed int
	}{
		{[]int{2, 5, 2}, []api.Pair{{A: 0, B: 1}}, 2},
		{[]int{6, 5, 3}, []api.Pair{{A: 0, B: 1}}, 0},
		{[]int{10, 5, 10, 5}, []api.Pair{{A: 0, B: 1}, {A: 2, B: 3}}, 15},
		{[]int{0}, nil, 0},
		{[]int{0, 0}, nil, 0},
		{[]int{2, 1}, []api.Pair{{A: 0, B: 1}}, 3},
		{[]int{4, 4, 3}, []api.Pair{{A: 0, B: 2}}, 4},
		// 0 1 would leave no other pair
		{[]int{6, 9, 1, 2}, []api.Pair{{A: 0, B: 2}, {A: 1, B: 3}}, 15},
		// three hats go with one only: the least of them is taken
		{[]int{4, 4, 11, 4}, []api.Pair{{A: 0, B: 2}}, 4},
		{[]int{8, 8, 8, 7}, []api.Pair{{A: 0, B: 3}}, 8},
		{make([]int, 10), nil, 0},
		{complete(10), []api.Pair{{A: 0, B: 1}, {A: 2, B: 3}, {A: 4, B: 5}, {A: 6, B: 7}, {A: 8, B: 9}}, 1023},
		{complete(9), []api.Pair{{A: 0, B: 1}, {A: 2, B: 3}, {A: 4, B: 5}, {A: 6, B: 7}}, 0},
		{row(9), []api.Pair{{A: 0, B: 1}, {A: 2, B: 3}, {A: 4, B: 5}, {A: 6, B: 7}}, 170},
		{sides(10, 3), []api.Pair{{A: 0, B: 3}, {A: 1, B: 4}, {A: 2, B: 5}}, 7},
	} {
		if l, e := visits.Largest(c.shop); !slices.Equal(l, c.want) || e != api.OK {
			t.Error(c, l, e)
		}
		if n, e := visits.Needed(c.shop); n != c.needed || e != api.OK {
			t.Error(c, n, e)
		}
	}
}

// P3.1 and P3.2, by all matchings
func TestLargestAndNeeded(t *testing.T) {
	for _, shop := range someShops() {
		want := largestMatchings(shop)[0]
		l, e := visits.Largest(shop)
		if !slices.Equal(l, want) || e != api.OK {
			t.Error(shop, l, e, want)
		}
		for i := range l { // new memory: no later call shows it
			l[i] = api.Pair{A: -1, B: -1}
		}
		if again, _ := visits.Largest(shop); !slices.Equal(again, want) {
			t.Error(shop, again, want)
		}
		if n, e := visits.Needed(shop); n != neededOf(shop) || e != api.OK {
			t.Error(shop, n, e)
		}
	}
}

// P3.1
func TestIsMatching(t *testing.T) {
	for _, c := range []struct {
		shop  []int
		pairs []api.Pair
		want  bool
	}{
		{[]int{2, 5, 2}, nil, true},
		{[]int{2, 5, 2}, []api.Pair{}, true},
		{[]int{0}, nil, true},
		{[]int{2, 5, 2}, []api.Pair{{A: 0, B: 1}}, true},
		{[]int{2, 5, 2}, []api.Pair{{A: 1, B: 2}}, true},
		{[]int{2, 5, 2}, []api.Pair{{A: 0, B: 2}}, false},               // do not go with each other
		{[]int{2, 5, 2}, []api.Pair{{A: 1, B: 0}}, false},               // A is not less
		{[]int{2, 5, 2}, []api.Pair{{A: 1, B: 1}}, false},               // with itself
		{[]int{2, 5, 2}, []api.Pair{{A: 0, B: 1}, {A: 1, B: 2}}, false}, // 1 twice
		{[]int{2, 5, 2}, []api.Pair{{A: 0, B: 1}, {A: 0, B: 1}}, false}, // the same twice
		{[]int{6, 5, 3}, []api.Pair{{A: 0, B: 1}, {A: 0, B: 2}}, false}, // A twice
		{[]int{6, 5, 3}, []api.Pair{{A: 0, B: 2}, {A: 1, B: 2}}, false}, // B twice
		{[]int{10, 5, 10, 5}, []api.Pair{{A: 0, B: 1}, {A: 2, B: 3}}, true},
		{[]int{10, 5, 10, 5}, []api.Pair{{A: 0, B: 3}, {A: 1, B: 2}}, true},  // B need not ascend
		{[]int{10, 5, 10, 5}, []api.Pair{{A: 2, B: 3}, {A: 0, B: 1}}, false}, // not ascending
		{[]int{10, 5, 10, 5}, []api.Pair{{A: 0, B: 3}, {A: 3, B: 2}}, false},
		{[]int{10, 5, 10, 5}, []api.Pair{{A: 0, B: 1}, {A: 2, B: 3}, {A: 4, B: 5}}, false}, // hats that are not there
		{[]int{10, 5, 10, 5}, []api.Pair{{A: -1, B: 0}}, false},
		{[]int{10, 5, 10, 5}, []api.Pair{{A: 3, B: 4}}, false},
		{[]int{10, 5, 10, 5}, []api.Pair{{A: 0, B: 64}}, false},
		{[]int{10, 5, 10, 5}, []api.Pair{{A: 0, B: 65}}, false},
		{[]int{10, 5, 10, 5}, []api.Pair{{A: math.MinInt, B: math.MaxInt}}, false},
		{[]int{10, 5, 10, 5}, []api.Pair{{A: math.MinInt, B: 1}}, false},
		{[]int{10, 5, 10, 5}, []api.Pair{{A: 1, B: math.MinInt}}, false},
		{complete(10), make([]api.Pair, 1000), false},
	} {
		pairs := slices.Clone(c.pairs)
		if ok, e := visits.IsMatching(c.shop, c.pairs); ok != c.want || e != api.OK {
			t.Error(c, ok, e)
		}
		if !slices.Equal(pairs, c.pairs) {
			t.Error("changed:", pairs, c.pairs)
		}
	}
}

// P3.1: of all lists of one, two and three pairs, just the matchings are told.
func TestIsMatchingOfAllLists(t *testing.T) {
	for _, shop := range [][]int{{0}, {2, 1}, {2, 5, 2}, {6, 5, 3}, {10, 5, 10, 5}, complete(4), {14, 1, 1, 1}, {8, 4, 2, 1}} {
		all := allMatchings(shop)
		isOne := func(pairs []api.Pair) bool {
			return slices.ContainsFunc(all, func(one []api.Pair) bool { return slices.Equal(one, pairs) })
		}
		var lists [][]api.Pair
		level := [][]api.Pair{nil}
		for range 3 {
			var longer [][]api.Pair
			for _, pairs := range level {
				for a := -1; a <= len(shop); a++ {
					for b := -1; b <= len(shop); b++ {
						longer = append(longer, append(slices.Clone(pairs), api.Pair{A: a, B: b}))
					}
				}
			}
			lists = append(lists, longer...)
			level = slices.DeleteFunc(longer, func(pairs []api.Pair) bool { return !isOne(pairs) && len(pairs) > 1 })
		}
		for _, pairs := range lists {
			if ok, e := visits.IsMatching(shop, pairs); ok != isOne(pairs) || e != api.OK {
				t.Error(shop, pairs, ok, e)
			}
		}
	}
}

// P3.4
func TestAnswer(t *testing.T) {
	for _, shop := range append(smallShops(4), largeShops()[:20]...) {
		for _, pairs := range allMatchings(shop)[:min(200, len(allMatchings(shop)))] {
			want := slices.Repeat([]int{-1}, len(shop))
			for _, p := range pairs {
				want[p.A], want[p.B] = p.B, p.A
			}
			for hat, other := range want {
				if n, e := visits.Answer(shop, pairs, hat); n != other || e != api.OK {
					t.Error(shop, pairs, hat, n, e)
				}
			}
			for _, hat := range []int{-1, len(shop), math.MinInt, math.MaxInt} {
				if n, e := visits.Answer(shop, pairs, hat); n != 0 || e != api.ErrArg {
					t.Error(shop, pairs, hat, n, e)
				}
			}
		}
	}
	square := []int{10, 5, 10, 5}
	for _, pairs := range [][]api.Pair{{{A: 1, B: 0}}, {{A: 0, B: 2}}, {{A: 0, B: 1}, {A: 1, B: 2}}, {{A: 2, B: 3}, {A: 0, B: 1}}, {{A: 0, B: 4}}, {{A: 0, B: 1}, {A: 0, B: 1}}} {
		for _, hat := range []int{0, 1, 3, 4, -1} {
			if n, e := visits.Answer(square, pairs, hat); n != 0 || e != api.ErrArg {
				t.Error(pairs, hat, n, e)
			}
		}
	}
}
