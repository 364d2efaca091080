package fits_test

import (
	"testing"

	"cloche/api"
	"cloche/fits"
)

// P6.1: gains that are plain, in lowest terms
func TestPlainGains(t *testing.T) {
	for _, c := range []struct {
		table    [][]int
		x, y     api.Parts
		num, den int
	}{
		{[][]int{{5}}, pure(1, 0), pure(1, 0), 5, 1},
		{[][]int{{-5}}, pure(1, 0), pure(1, 0), -5, 1},
		{[][]int{{0}}, pure(1, 0), pure(1, 0), 0, 1},
		{doves, pure(2, 0), pure(2, 1), 3, 1},
		{doves, pure(2, 1), pure(2, 0), 1, 1},
		{doves, parts(4, 3, 1), parts(2, 1, 1), 5, 4},
		{doves, parts(2, 1, 1), parts(4, 3, 1), 3, 4},
		{doves, parts(4, 3, 1), parts(4, 3, 1), 3, 4},
		{doves, parts(4, 1, 3), pure(2, 0), 3, 4},
		{both, parts(3, 1, 2), parts(3, 1, 2), 2, 3},
		{ring, parts(3, 1, 1, 1), parts(7, 1, 2, 4), 1, 3},
		{ring, parts(2, 1, 1, 0), parts(2, 0, 1, 1), 3, 4},
		{ring, parts(2, 0, 1, 1), parts(2, 1, 1, 0), 0, 1},
		{worse, parts(3, 1, 1, 1), parts(5, 2, 3, 0), -1, 3},
		{[][]int{{20, 20}, {20, 20}}, parts(10000, 1, 9999), parts(9999, 1, 9998), 20, 1},
		{[][]int{{-20, 0}, {0, 0}}, parts(10000, 9999, 1), parts(9999, 9998, 1), -4999, 250},
		{[][]int{{1, 0}, {0, 0}}, parts(9973, 9972, 1), parts(9999, 1, 9998), 1108, 11080003},
	} {
		r, e := fits.Gain(c.table, c.x, c.y)
		if want := (api.Ratio{Num: c.num, Den: c.den}); r != want || e != api.OK {
			t.Error(c, r, e)
		}
	}
}

// P6.1: Gain, Best and AtRest by the words of the chapter
func TestGains(t *testing.T) {
	tables := randomTables(60, 20, 1)
	tables = append(tables, randomTables(60, 1, 2)...)
	tables = append(tables, doves, both, ring, worse)
	mixtures := [][]api.Parts{nil, mixturesOf(1, 6), mixturesOf(2, 6), mixturesOf(3, 6)}
	for _, table := range tables {
		n := len(table)
		for _, x := range mixtures[n] {
			rest := true
			for _, y := range mixtures[n] {
				want := gainOf(table, x, y)
				r, e := fits.Gain(table, x, y)
				if int64(r.Num) != want.Num().Int64() || int64(r.Den) != want.Denom().Int64() || e != api.OK {
					t.Error(table, x, y, r, e, want)
				}
				rest = rest && compared(table, y, x, x) <= 0
			}
			if got, e := fits.AtRest(table, x); got != rest || e != api.OK {
				t.Error(table, x, got, e)
			}
			if got, e := fits.Best(table, x); got != bestOf(table, x) || e != api.OK {
				t.Error(table, x, got, e)
			}
		}
	}
}

// bestOf is the set of the fashions alone against which no other one gains more.
func bestOf(table [][]int, x api.Parts) int {
	set := 0
	for i := range table {
		best := true
		for k := range table {
			best = best && compared(table, pure(len(table), i), pure(len(table), k), x) >= 0
		}
		if best {
			set |= 1 << i
		}
	}
	return set
}

// P6.1: the best against a mixture, and whether it is at rest, where this is plain
func TestPlainBest(t *testing.T) {
	even := [][]int{{0, 0, 0}, {0, 0, 0}, {0, 0, 0}}
	low := [][]int{{-20, -20}, {-20, -20}}
	for _, c := range []struct {
		table [][]int
		x     api.Parts
		best  int
		rest  bool
	}{
		{[][]int{{5}}, pure(1, 0), 1, true},
		{[][]int{{-20}}, pure(1, 0), 1, true},
		{doves, pure(2, 0), 2, false},
		{doves, pure(2, 1), 1, false},
		{doves, parts(4, 3, 1), 3, true},
		{doves, parts(2, 1, 1), 1, false},
		{doves, parts(10000, 7501, 2499), 2, false},
		{doves, parts(10000, 7499, 2501), 1, false},
		{both, pure(2, 0), 1, true},
		{both, pure(2, 1), 2, true},
		{both, parts(3, 1, 2), 3, true},
		{both, parts(2, 1, 1), 1, false},
		{ring, parts(3, 1, 1, 1), 7, true},
		{ring, pure(3, 0), 4, false},
		{even, parts(2, 1, 0, 1), 7, true},
		{low, parts(5, 2, 3), 3, true},
		{[][]int{{1, 0, 0}, {1, 0, 0}, {0, 0, 0}}, pure(3, 0), 3, true},
		{[][]int{{1, 0, 0}, {1, 0, 0}, {0, 0, 0}}, parts(2, 1, 0, 1), 3, false},
	} {
		if best, e := fits.Best(c.table, c.x); best != c.best || e != api.OK {
			t.Error(c, best, e)
		}
		if rest, e := fits.AtRest(c.table, c.x); rest != c.rest || e != api.OK {
			t.Error(c, rest, e)
		}
	}
}
