package tones_test

import (
	"slices"
	"testing"

	"cloche/api"
	"cloche/tones"
)

// P8.6: plain ones, of which some share one polynomial alone
func TestPlainAlike(t *testing.T) {
	for _, c := range []struct {
		a, b             []int
		tones, matchings bool
	}{
		{bare(1), bare(1), true, true},
		{bare(1), bare(2), false, false},
		{wire, bare(2), false, false},
		{star(5), square, true, false},
		{square, star(5), true, false},
		{[]int{6, 5, 3, 0}, star(4), false, true},
		{star(4), []int{6, 5, 3, 0}, false, true},
		{row(4), star(4), false, false},
		{ring(6), []int{6, 5, 3, 48, 40, 24}, false, false},
		{rings, rings, true, true},
	} {
		x, y, e := tones.Alike(c.a, c.b)
		if x != c.tones || y != c.matchings || e != api.OK {
			t.Error(c, x, y, e)
		}
	}
}

// P8.6: Alike by both polynomials, as they are reckoned in the tests of P8.1
func TestAlike(t *testing.T) {
	frames := append(named(), randomFrames(40, 50)...)
	for n := 1; n <= 4; n++ {
		frames = append(frames, allFrames(n)...)
	}
	var determinants, matchings [][]int
	for _, frame := range frames {
		determinants, matchings = append(determinants, determinant(frame)), append(matchings, matched(frame))
	}
	for i, a := range frames {
		for k, b := range frames {
			x, y, e := tones.Alike(a, b)
			if x != slices.Equal(determinants[i], determinants[k]) || y != slices.Equal(matchings[i], matchings[k]) || e != api.OK {
				t.Error(a, b, x, y, e)
			}
		}
	}
}
