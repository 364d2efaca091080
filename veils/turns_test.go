package veils_test

import (
	"math"
	"slices"
	"testing"

	"cloche/api"
	"cloche/veils"
)

// turned returns the heights that come of turning one of them, and whether it is free,
// by the words of the chapter.
func turned(heights [][]int, i, j int) ([][]int, bool) {
	around := []int{heights[i-1][j], heights[i+1][j], heights[i][j-1], heights[i][j+1]}
	for _, height := range around {
		if height != around[0] {
			return nil, false
		}
	}
	h := clone(heights)
	if h[i][j] == around[0]+1 {
		h[i][j] = around[0] - 1
	} else {
		h[i][j] = around[0] + 1
	}
	return h, true
}

// P9.4: Turn, plain
func TestTurnPlain(t *testing.T) {
	for _, c := range []struct {
		table [][]int
		i, j  int
		want  [][]int
		e     api.Errno
	}{
		{unit(3), 1, 1, swap, api.OK},
		{swap, 1, 1, unit(3), api.OK},
		{swap, 1, 2, nil, api.ErrState},
		{swap, 2, 1, nil, api.ErrState},
		{swap, 2, 2, cross, api.OK},
		{unit(3), 2, 2, tableOf(3, 1, 0, 0, 0, 0, 1, 0, 1, 0), api.OK},
		{tableOf(3, 1, 0, 0, 0, 0, 1, 0, 1, 0), 1, 1, cross, api.OK},
		{cross, 1, 2, tableOf(3, 0, 0, 1, 1, 0, 0, 0, 1, 0), api.OK},
		{unit(3), 0, 1, nil, api.ErrArg},
		{unit(3), 1, 3, nil, api.ErrArg},
		{unit(1), 0, 0, nil, api.ErrArg},
		{unit(1), 1, 1, nil, api.ErrArg},
	} {
		got, e := veils.Turn(c.table, c.i, c.j)
		if e != c.e || e == api.OK && !same(got, c.want) || e != api.OK && len(got) > 0 {
			t.Error(c, got, e)
		}
	}
}

// P9.4: Turn of all veils, at all places, and at such as are none
func TestTurn(t *testing.T) {
	numbers := append([]int{0, 1, 2, 3, 4, 5}, noNumbers...)
	for _, v := range all(t, 5) {
		h := heightsOf(v)
		for _, i := range numbers {
			for _, j := range numbers {
				if i < 1 || j < 1 || i >= len(v) || j >= len(v) {
					refused(t, api.ErrArg)(noneOf(veils.Turn(v, i, j)))
				} else if want, free := turned(h, i, j); !free {
					refused(t, api.ErrState)(noneOf(veils.Turn(v, i, j)))
				} else if got := value[[][]int](t)(veils.Turn(v, i, j)); !isVeil(got) || !same(heightsOf(got), want) {
					t.Error(v, i, j, got, want)
				}
			}
		}
	}
}

// P9.5: Gyrate, plain
func TestGyratePlain(t *testing.T) {
	for _, c := range []struct{ table, want [][]int }{
		{unit(1), unit(1)},
		{unit(2), backwards(unit(2))},
		{backwards(unit(2)), unit(2)},
		{unit(3), cross},
		{cross, backwards(unit(3))},
		{swap, tableOf(3, 1, 0, 0, 0, 0, 1, 0, 1, 0)},
	} {
		if got := value[[][]int](t)(veils.Gyrate(c.table)); !same(got, c.want) {
			t.Error(c.table, got, c.want)
		}
	}
}

// P9.5: Gyrate of all veils is Turn of one free height after the other: the odd ones in
// any order, then the even ones.
func TestGyrate(t *testing.T) {
	for _, v := range all(t, 5) {
		got := value[[][]int](t)(veils.Gyrate(v))
		for _, backwards := range []bool{false, true} {
			want := v
			for _, odd := range []int{1, 0} {
				var places [][2]int
				for i := 1; i < len(v); i++ {
					for j := 1; j < len(v); j++ {
						if (i+j)%2 == odd {
							places = append(places, [2]int{i, j})
						}
					}
				}
				if backwards {
					slices.Reverse(places)
				}
				for _, place := range places {
					if next, e := veils.Turn(want, place[0], place[1]); e == api.OK {
						want = next
					}
				}
			}
			if !same(got, want) {
				t.Error(v, got, want)
			}
		}
	}
}

// P9.4: numbers of all sizes
func TestTurnNumbers(t *testing.T) {
	for _, i := range []int{math.MinInt, math.MinInt + 1, math.MaxInt - 1, math.MaxInt} {
		for _, j := range []int{math.MinInt, 1, math.MaxInt} {
			refused(t, api.ErrArg)(noneOf(veils.Turn(diamond, i, j)))
			refused(t, api.ErrArg)(noneOf(veils.Turn(diamond, j, i)))
		}
	}
}
