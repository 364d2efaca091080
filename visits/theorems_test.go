package visits_test

import (
	"math/bits"
	"slices"
	"testing"

	"cloche/api"
	"cloche/visits"
)

// found returns the value of a call that has to go well.
func found[T any](t *testing.T, value T, e api.Errno) T {
	t.Helper()
	if e != api.OK {
		t.Fatal(e)
	}
	return value
}

func largest(t *testing.T, shop []int) []api.Pair {
	l, e := visits.Largest(shop)
	return found(t, l, e)
}

func needed(t *testing.T, shop []int) int {
	n, e := visits.Needed(shop)
	return found(t, n, e)
}

func wins(t *testing.T, shop []int, visited, last int) bool {
	ok, e := visits.Wins(shop, visited, last)
	return found(t, ok, e)
}

// rest returns the shop of the hats that are not in a set, and which number
// each of them has there.
func rest(shop []int, set int) ([]int, map[int]int) {
	numbers := map[int]int{}
	for hat := range shop {
		if set>>hat&1 == 0 {
			numbers[hat] = len(numbers)
		}
	}
	var pairs []api.Pair
	for _, p := range pairsOf(shop) {
		if set>>p.A&1 == 0 && set>>p.B&1 == 0 {
			pairs = append(pairs, api.Pair{A: numbers[p.A], B: numbers[p.B]})
		}
	}
	return joined(len(numbers), pairs), numbers
}

// P3.6
func TestTutteBerge(t *testing.T) {
	for _, shop := range someShops() {
		_, most, e := visits.Barrier(shop)
		if left := len(shop) - 2*len(largest(t, shop)); left != most || e != api.OK {
			t.Error(shop, left, most, e)
		}
	}
}

// answered plays Answer after each move of the other one, and reports whether
// it is always a move.
func answered(t *testing.T, shop []int, pairs []api.Pair, visited, last int) bool {
	t.Helper()
	hat, e := visits.Answer(shop, pairs, last)
	if e != api.OK || hat < 0 || visited>>hat&1 == 1 || shop[last]>>hat&1 == 0 {
		return false
	}
	visited |= 1 << hat
	for next := range shop {
		if shop[hat]>>next&1 == 1 && visited>>next&1 == 0 && !answered(t, shop, pairs, visited|1<<next, next) {
			return false
		}
	}
	return true
}

// P3.7
func TestGeography(t *testing.T) {
	for _, shop := range someShops() {
		need := needed(t, shop)
		for hat := range shop {
			if wins(t, shop, 1<<hat, hat) != (need>>hat&1 == 1) {
				t.Error(shop, hat, need)
			}
		}
		starts, e := visits.Starts(shop)
		if starts != 1<<len(shop)-1-need || e != api.OK {
			t.Error(shop, starts, e, need)
		}
	}
	for _, shop := range append(smallShops(4), ring(8), row(10), sides(8, 3), sides(8, 4)) {
		need := needed(t, shop)
		for _, pairs := range append(largestMatchings(shop), largest(t, shop)) {
			for hat := range shop {
				if need>>hat&1 == 1 && !answered(t, shop, pairs, 1<<hat, hat) {
					t.Error(shop, pairs, hat)
				}
			}
		}
	}
}

// P3.7, with more hats visited
func TestGeographyOfTheRest(t *testing.T) {
	shops := append(smallShops(4), largeShops()...)
	for i, shop := range shops {
		for visited := range 1 << len(shop) {
			if len(shop) > 5 && visited%13 != i%13 {
				continue
			}
			for last := range shop {
				if visited>>last&1 == 0 {
					continue
				}
				fewer, numbers := rest(shop, visited&^(1<<last))
				at := numbers[last]
				if wins(t, shop, visited, last) != wins(t, fewer, 1<<at, at) {
					t.Error(shop, visited, last)
				}
			}
		}
	}
}

// P3.8
func TestGallaiEdmonds(t *testing.T) {
	between := 0
	for _, shop := range someShops() {
		need := needed(t, shop)
		free, around := 1<<len(shop)-1-need, 0
		for hat := range shop {
			if need>>hat&1 == 1 && shop[hat]&free != 0 {
				around |= 1 << hat
			}
		}
		parts, e := visits.Parts(shop, around)
		within := 0
		for _, part := range parts {
			if part&^free == 0 {
				within++
			}
		}
		odd, f := visits.Odd(shop, around)
		_, most, g := visits.Barrier(shop)
		if odd != within || odd-bits.OnesCount(uint(around)) != most || e != api.OK || f != api.OK || g != api.OK {
			t.Error(shop, around, parts, odd, most, e, f, g)
		}
		if around != 0 && around != need {
			between++
		}
	}
	if between == 0 {
		t.Error("no shop has all three kinds of hats")
	}
}

// P3.9
func TestOneHatLess(t *testing.T) {
	for _, shop := range someShops() {
		if len(shop) == 1 {
			continue
		}
		need, size := needed(t, shop), len(largest(t, shop))
		for hat := range shop {
			fewer, _ := rest(shop, 1<<hat)
			if len(largest(t, fewer)) != size-need>>hat&1 {
				t.Error(shop, hat, need, size)
			}
		}
	}
}

// P3.10
func TestBounds(t *testing.T) {
	for _, shop := range append(smallShops(5), largeShops()[10:40]...) {
		size := len(largest(t, shop))
		pairs := pairsOf(shop)
		for set := range 1 << len(shop) {
			covers := !slices.ContainsFunc(pairs, func(p api.Pair) bool { return set>>p.A&1 == 0 && set>>p.B&1 == 0 })
			if covers && size > bits.OnesCount(uint(set)) {
				t.Error(shop, size, set)
			}
		}
		for _, matching := range allMatchings(shop) {
			ok, e := visits.IsMatching(shop, matching)
			if !ok || e != api.OK || len(matching) > size {
				t.Error(shop, matching, ok, e)
			}
			taken := hatsOf(matching)
			more := slices.ContainsFunc(pairs, func(p api.Pair) bool { return taken>>p.A&1 == 0 && taken>>p.B&1 == 0 })
			if !more && 2*len(matching) < size {
				t.Error(shop, matching, size)
			}
		}
	}
}
