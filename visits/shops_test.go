package visits_test

import (
	"math"
	"math/rand"
	"slices"
	"testing"

	"cloche/api"
	"cloche/visits"
)

// noShops are lists that are not shops.
var noShops = [][]int{
	nil,
	{},
	{1}, // goes with itself
	{2},
	{-1},
	{-2},
	{math.MinInt},
	{math.MaxInt},
	{2, 0}, // goes with a hat that does not go with it
	{0, 1},
	{3, 3},
	{2, 3},
	{2, 1, 8}, // hats that are not there
	{6, 1, 0},
	{6, 5, 7},
	{6, 5, 11},
	{6, 5, -5},
	{6, 5, 3 + 1<<32},
	{0, 0, math.MinInt},
	{0, 0, 1 << 62},
	{4, 0, 1, 16},
	make([]int, 11),
	make([]int, 64),
	make([]int, 1000),
	complete(11),
	append(make([]int, 9), 1<<9),
	append(make([]int, 9), 1<<10),
	append(make([]int, 9), 1),
}

// someNumbers are ints from one end to the other.
var someNumbers = []int{math.MinInt, math.MinInt + 1, -1 << 32, -1024, -64, -2, -1, 0, 1, 2, 3, 4, 5, 6, 7, 8, 9, 10, 11, 16, 63, 64, 100, 512, 1022, 1023, 1024, 1<<32 + 1, 1 << 62, math.MaxInt}

// joined returns the shop of n hats in which these pairs go with each other.
func joined(n int, pairs []api.Pair) []int {
	shop := make([]int, n)
	for _, p := range pairs {
		shop[p.A] |= 1 << p.B
		shop[p.B] |= 1 << p.A
	}
	return shop
}

// allPairs returns the pairs of n hats, ascending.
func allPairs(n int) []api.Pair {
	var pairs []api.Pair
	for a := range n {
		for b := a + 1; b < n; b++ {
			pairs = append(pairs, api.Pair{A: a, B: b})
		}
	}
	return pairs
}

func complete(n int) []int { return joined(n, allPairs(n)) }

// ring returns hats each of which goes with the next one, the last one too.
func ring(n int) []int { return joined(n, append(rowPairs(n), api.Pair{A: 0, B: n - 1})) }

func row(n int) []int { return joined(n, rowPairs(n)) }

func rowPairs(n int) []api.Pair {
	var pairs []api.Pair
	for a := range n - 1 {
		pairs = append(pairs, api.Pair{A: a, B: a + 1})
	}
	return pairs
}

// sides returns n hats of which each of the first ones goes with each of the
// others.
func sides(n, first int) []int {
	var pairs []api.Pair
	for _, p := range allPairs(n) {
		if p.A < first && p.B >= first {
			pairs = append(pairs, p)
		}
	}
	return joined(n, pairs)
}

// smallShops returns all shops of 1 to most hats.
func smallShops(most int) [][]int {
	var shops [][]int
	for n := 1; n <= most; n++ {
		pairs := allPairs(n)
		for chosen := range 1 << len(pairs) {
			var some []api.Pair
			for i, p := range pairs {
				if chosen>>i&1 == 1 {
					some = append(some, p)
				}
			}
			shops = append(shops, joined(n, some))
		}
	}
	return shops
}

// largeShops returns shops of up to MaxHats hats, with few and with many pairs;
// with a seed of its own, so that they are always the same.
func largeShops() [][]int {
	shops := [][]int{
		make([]int, 10), complete(9), complete(10), row(9), row(10), ring(9), ring(10),
		sides(10, 1), sides(10, 3), sides(10, 5), sides(9, 4),
		joined(10, []api.Pair{{A: 0, B: 9}}),
		// two rings of five, with and without a pair between them
		joined(10, []api.Pair{{A: 0, B: 1}, {A: 1, B: 2}, {A: 2, B: 3}, {A: 3, B: 4}, {A: 0, B: 4}, {A: 5, B: 6}, {A: 6, B: 7}, {A: 7, B: 8}, {A: 8, B: 9}, {A: 5, B: 9}}),
		joined(10, []api.Pair{{A: 0, B: 1}, {A: 1, B: 2}, {A: 2, B: 3}, {A: 3, B: 4}, {A: 0, B: 4}, {A: 5, B: 6}, {A: 6, B: 7}, {A: 7, B: 8}, {A: 8, B: 9}, {A: 5, B: 9}, {A: 2, B: 7}}),
		// three triangles around one hat
		joined(10, []api.Pair{{A: 0, B: 1}, {A: 1, B: 2}, {A: 0, B: 2}, {A: 3, B: 4}, {A: 4, B: 5}, {A: 3, B: 5}, {A: 6, B: 7}, {A: 7, B: 8}, {A: 6, B: 8}, {A: 0, B: 9}, {A: 3, B: 9}, {A: 6, B: 9}}),
	}
	r := rand.New(rand.NewSource(1))
	for i := range 60 {
		n := 6 + i%5
		var some []api.Pair
		for _, p := range allPairs(n) {
			if r.Intn(12) <= i%7 {
				some = append(some, p)
			}
		}
		shops = append(shops, joined(n, some))
	}
	return shops
}

func someShops() [][]int { return append(smallShops(5), largeShops()...) }

// isShop is the chapter's definition.
func isShop(shop []int) bool {
	n := len(shop)
	if n < 1 || n > 10 {
		return false
	}
	for i := range n {
		if shop[i] < 0 || shop[i] >= 1<<n {
			return false
		}
	}
	for i := range n {
		for j := range n {
			if shop[i]&(1<<j) != 0 && (i == j || shop[j]&(1<<i) == 0) {
				return false
			}
		}
	}
	return true
}

// Types of the chapter
func TestIsShop(t *testing.T) {
	for _, shop := range [][]int{{0}, {0, 0}, {2, 1}, {2, 5, 2}, {6, 5, 3}, {10, 5, 10, 5}} {
		if !visits.IsShop(shop) {
			t.Error(shop)
		}
	}
	for _, shop := range someShops() {
		if !visits.IsShop(shop) || !isShop(shop) {
			t.Error(shop)
		}
	}
	for _, shop := range noShops {
		if visits.IsShop(shop) || isShop(shop) {
			t.Error(shop)
		}
	}
	for _, shop := range largeShops() { // with one number changed, none is
		for i := range shop {
			for bit := range 64 {
				other := slices.Clone(shop)
				other[i] ^= 1 << bit
				if visits.IsShop(other) {
					t.Error(other)
				}
			}
		}
	}
}

// Types of the chapter, for all lists of small numbers
func TestIsShopOfSmallLists(t *testing.T) {
	found := 0
	for a := -2; a <= 9; a++ {
		for b := -2; b <= 9; b++ {
			if visits.IsShop([]int{a, b}) != isShop([]int{a, b}) {
				t.Error(a, b)
			}
			for c := -2; c <= 9; c++ {
				shop := []int{a, b, c}
				if visits.IsShop(shop) != isShop(shop) {
					t.Error(shop)
				}
				if visits.IsShop(shop) {
					found++
				}
			}
		}
	}
	if found != 8 {
		t.Error(found)
	}
}

// All functions return ErrArg and zero values if shop is not one.
func TestNoShops(t *testing.T) {
	matching := []api.Pair{{A: 0, B: 1}}
	for _, shop := range noShops {
		for _, hat := range []int{0, 1, -1} {
			if l, e := visits.Largest(shop); len(l) != 0 || e != api.ErrArg {
				t.Error(shop, l, e)
			}
			if n, e := visits.Needed(shop); n != 0 || e != api.ErrArg {
				t.Error(shop, n, e)
			}
			if n, e := visits.Starts(shop); n != 0 || e != api.ErrArg {
				t.Error(shop, n, e)
			}
			if set, most, e := visits.Barrier(shop); set != 0 || most != 0 || e != api.ErrArg {
				t.Error(shop, set, most, e)
			}
			for _, pairs := range [][]api.Pair{nil, matching} {
				if ok, e := visits.IsMatching(shop, pairs); ok || e != api.ErrArg {
					t.Error(shop, pairs, ok, e)
				}
				if n, e := visits.Answer(shop, pairs, hat); n != 0 || e != api.ErrArg {
					t.Error(shop, pairs, n, e)
				}
			}
			for set := range 4 {
				if ok, e := visits.Wins(shop, set, hat); ok || e != api.ErrArg {
					t.Error(shop, set, ok, e)
				}
				if n, e := visits.Move(shop, set, hat); n != 0 || e != api.ErrArg {
					t.Error(shop, set, n, e)
				}
				if n, e := visits.Odd(shop, set); n != 0 || e != api.ErrArg {
					t.Error(shop, set, n, e)
				}
				if l, e := visits.Parts(shop, set); len(l) != 0 || e != api.ErrArg {
					t.Error(shop, set, l, e)
				}
			}
		}
	}
}
