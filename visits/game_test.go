package visits_test

import (
	"math"
	"testing"

	"cloche/api"
	"cloche/visits"
)

// winningMoves returns the hats with which the one who moves next wins, by
// playing the game to its ends.
func winningMoves(shop []int, visited, last int) []int {
	var moves []int
	for hat := range shop {
		if shop[last]>>hat&1 == 1 && visited>>hat&1 == 0 && !isWon(shop, visited|1<<hat, hat) {
			moves = append(moves, hat)
		}
	}
	return moves
}

func isWon(shop []int, visited, last int) bool {
	for hat := range shop {
		if shop[last]>>hat&1 == 1 && visited>>hat&1 == 0 && !isWon(shop, visited|1<<hat, hat) {
			return true
		}
	}
	return false
}

func checkPosition(t *testing.T, shop []int, visited, last int) {
	t.Helper()
	moves := winningMoves(shop, visited, last)
	if ok, e := visits.Wins(shop, visited, last); ok != (len(moves) > 0) || e != api.OK {
		t.Error(shop, visited, last, ok, e, moves)
	}
	move, e := visits.Move(shop, visited, last)
	if len(moves) == 0 && (move != 0 || e != api.ErrPlan) {
		t.Error(shop, visited, last, move, e)
	}
	if len(moves) > 0 && (move != moves[0] || e != api.OK) {
		t.Error(shop, visited, last, move, e, moves)
	}
}

// P3.3: the examples, and games whose ends are plain
func TestPlainGames(t *testing.T) {
	for _, c := range []struct {
		shop          []int
		visited, last int
		wins          bool
		move          int
		e             api.Errno
	}{
		{[]int{2, 5, 2}, 2, 1, true, 0, api.OK},
		{[]int{2, 5, 2}, 1, 0, false, 0, api.ErrPlan},
		{[]int{2, 5, 2}, 3, 1, true, 2, api.OK},
		{[]int{2, 5, 2}, 3, 0, false, 0, api.ErrPlan}, // also if no game comes there
		{[]int{2, 5, 2}, 5, 0, true, 1, api.OK},
		{[]int{2, 5, 2}, 7, 1, false, 0, api.ErrPlan},
		{[]int{6, 5, 3}, 1, 0, false, 0, api.ErrPlan},
		{[]int{6, 5, 3}, 3, 1, true, 2, api.OK},
		{[]int{10, 5, 10, 5}, 1, 0, true, 1, api.OK},
		{[]int{0}, 1, 0, false, 0, api.ErrPlan},
		{row(4), 4, 2, true, 3, api.OK}, // 1 would lose
		{row(10), 1, 0, true, 1, api.OK},
		{row(9), 1, 0, false, 0, api.ErrPlan},
		{complete(10), 1, 0, true, 1, api.OK},
		{complete(10), 512, 9, true, 0, api.OK},
		{complete(9), 256, 8, false, 0, api.ErrPlan},
	} {
		if ok, e := visits.Wins(c.shop, c.visited, c.last); ok != c.wins || e != api.OK {
			t.Error(c, ok, e)
		}
		if move, e := visits.Move(c.shop, c.visited, c.last); move != c.move || e != c.e {
			t.Error(c, move, e)
		}
	}
	for _, c := range []struct {
		shop []int
		want int
	}{{[]int{2, 5, 2}, 5}, {[]int{6, 5, 3}, 7}, {[]int{10, 5, 10, 5}, 0}, {[]int{0}, 1}, {make([]int, 10), 1023}, {complete(9), 511}, {complete(10), 0}, {sides(10, 1), 1022}, {row(9), 341}} {
		if n, e := visits.Starts(c.shop); n != c.want || e != api.OK {
			t.Error(c, n, e)
		}
	}
}

// P3.3, by games that are played to their ends
func TestGames(t *testing.T) {
	for _, shop := range smallShops(4) {
		for visited := range 1 << len(shop) {
			for last := range shop {
				if visited>>last&1 == 1 {
					checkPosition(t, shop, visited, last)
				}
			}
		}
	}
	for _, shop := range someShops() {
		starts := 0
		for hat := range shop {
			checkPosition(t, shop, 1<<hat, hat)
			checkPosition(t, shop, 1<<hat|1<<(3*hat%len(shop))|1<<(len(shop)/2), hat)
			if !isWon(shop, 1<<hat, hat) {
				starts |= 1 << hat
			}
		}
		if n, e := visits.Starts(shop); n != starts || e != api.OK {
			t.Error(shop, n, e, starts)
		}
	}
}

// P3.3
func TestNoPositions(t *testing.T) {
	for _, shop := range [][]int{{0}, {2, 5, 2}, {10, 5, 10, 5}, complete(10)} {
		n := len(shop)
		for _, visited := range append(someNumbers, 1<<n-1, 1<<n, 1<<n+1, -1<<n) {
			for _, last := range append(someNumbers, n-1, n, n+1) {
				want := api.OK
				if visited < 0 || visited > 1<<n-1 || last < 0 || last > n-1 || visited>>last&1 == 0 {
					want = api.ErrArg
				}
				ok, e := visits.Wins(shop, visited, last)
				if e != want || ok && e != api.OK {
					t.Error(shop, visited, last, ok, e)
				}
				move, f := visits.Move(shop, visited, last)
				if want == api.OK && !ok {
					want = api.ErrPlan
				}
				if f != want || move != 0 && f != api.OK {
					t.Error(shop, visited, last, move, f)
				}
			}
		}
	}
	for _, c := range [][2]int{{-1, 0}, {8, 3}, {7, 3}, {9, 0}, {1, 1}, {0, 0}, {1, -1}, {1, 64}, {math.MaxInt, 0}, {math.MinInt, 63}} {
		if ok, e := visits.Wins([]int{6, 5, 3}, c[0], c[1]); ok || e != api.ErrArg {
			t.Error(c, ok, e)
		}
	}
}
