package waves_test

import (
	"math"
	"slices"
	"testing"

	"cloche/api"
	"cloche/waves"
)

// P5.3: the example, the least waves, and the first and the last ones of ten
func TestPlainRanks(t *testing.T) {
	for _, c := range []struct {
		rank int
		wave []int
	}{
		{0, nil},
		{0, []int{1}},
		{0, []int{1, 2}},
		{0, []int{1, 3, 2}},
		{1, []int{2, 3, 1}},
		{0, []int{1, 3, 2, 4}},
		{1, []int{1, 4, 2, 3}},
		{2, []int{2, 3, 1, 4}},
		{3, []int{2, 4, 1, 3}},
		{4, []int{3, 4, 1, 2}},
		{0, []int{1, 3, 2, 5, 4, 7, 6, 9, 8, 10}},
		{50520, []int{9, 10, 7, 8, 5, 6, 3, 4, 1, 2}},
	} {
		if n, e := waves.Rank(c.wave); n != c.rank || e != api.OK {
			t.Error(c, n, e)
		}
		if l, e := waves.At(len(c.wave), c.rank); !slices.Equal(l, c.wave) || e != api.OK {
			t.Error(c, l, e)
		}
	}
}

// P5.3: the ranks of all waves, which are listed in lexicographic order
func TestRanks(t *testing.T) {
	for n := range 11 {
		for rank, wave := range wavesOf(n) {
			if got, e := waves.Rank(wave); got != rank || e != api.OK {
				t.Fatal(wave, rank, got, e)
			}
			if l, e := waves.At(n, rank); !slices.Equal(l, wave) || e != api.OK {
				t.Fatal(wave, rank, l, e)
			}
		}
	}
}

// P5.3: a row that is not a wave has no rank
func TestNoRank(t *testing.T) {
	for n := range 8 {
		for _, row := range rowsOf(n) {
			want := api.ErrState
			if isWave(row) {
				want = api.OK
			}
			if got, e := waves.Rank(row); e != want || e != api.OK && got != 0 {
				t.Error(row, got, e)
			}
		}
	}
	for _, row := range [][]int{{2, 1}, {3, 1, 2}, {10, 9, 8, 7, 6, 5, 4, 3, 2, 1}, {1, 3, 2, 5, 4, 7, 6, 9, 10, 8}} {
		if got, e := waves.Rank(row); got != 0 || e != api.ErrState {
			t.Error(row, got, e)
		}
	}
}

// P5.3: there is no wave of n, or none with this rank; ErrArg comes first
func TestNoWaveAt(t *testing.T) {
	for _, n := range noRowSizes {
		for _, rank := range []int{math.MinInt, -1, 0, 1, math.MaxInt} {
			if l, e := waves.At(n, rank); len(l) != 0 || e != api.ErrArg {
				t.Error(n, rank, l, e)
			}
		}
	}
	for n, count := range []int{1, 1, 1, 2, 5, 16, 61, 272, 1385, 7936, 50521} {
		for _, rank := range []int{math.MinInt, -1 << 32, -1, count, count + 1, 1 << 32, math.MaxInt} {
			if l, e := waves.At(n, rank); len(l) != 0 || e != api.ErrRange {
				t.Error(n, rank, l, e)
			}
		}
		if l, e := waves.At(n, count-1); len(l) != n || e != api.OK {
			t.Error(n, l, e)
		}
	}
}
