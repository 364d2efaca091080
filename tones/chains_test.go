package tones

import (
	"math/rand"
	"testing"
)

// Just above a place, only the polynomial 0 is 0.
func TestSignAbove(t *testing.T) {
	for _, c := range []struct {
		numbers []int
		x, want int
	}{{nil, 3, 0}, {[]int{-5}, 3, -1}, {[]int{-3, 1}, 3, 1}, {[]int{3, -1}, 3, -1}, {[]int{-3, 1}, 2, -1}, {[]int{4, 4, 1}, -2, 1}, {[]int{-4, -4, -1}, -2, -1}, {[]int{0, 0, 0, 1}, 0, 1}} {
		if got := polynomialOf(c.numbers).signAbove(c.x); got != c.want {
			t.Error(c, got)
		}
	}
}

// A chain's numbers are never as large as the comment of times says, or larger.
func TestDigitsOfChains(t *testing.T) {
	r := rand.New(rand.NewSource(4))
	most := 0
	for range 2000 {
		var numbers []int
		for range 8 {
			numbers = append(numbers, (10000-r.Intn(2))*(2*r.Intn(2)-1))
		}
		for _, p := range chainOf(polynomialOf(numbers)) {
			for _, number := range p.list {
				most = max(most, len(number))
			}
		}
	}
	if most < 100 || most >= 300 {
		t.Error(most)
	}
}
