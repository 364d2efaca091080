package tones

import (
	"math/big"
	"math/rand"
	"slices"
	"testing"
)

// bigOf returns the number that digits stand for, and fails the test if they are not
// as they should be.
func bigOf(t *testing.T, a wide) *big.Int {
	t.Helper()
	sum := new(big.Int)
	for _, digit := range slices.Backward(a) {
		if digit < -base/2 || digit >= base/2 {
			t.Fatal(a)
		}
		sum.Add(sum.Lsh(sum, digitBits), big.NewInt(int64(digit)))
	}
	if len(a) > 0 && a[len(a)-1] == 0 {
		t.Fatal(a)
	}
	return sum
}

// someWide are numbers of up to so many digits, with many digits at their limits.
func someWide(many, most int, seed int64) []wide {
	r := rand.New(rand.NewSource(seed))
	limits := []int{-base / 2, -base/2 + 1, -1, 0, 1, base/2 - 2, base/2 - 1}
	list := []wide{nil}
	for range many {
		var digits []int
		for range r.Intn(most + 1) {
			digit := r.Intn(base) - base/2
			if r.Intn(2) == 0 {
				digit = limits[r.Intn(len(limits))]
			}
			digits = append(digits, digit)
		}
		list = append(list, settled(digits))
	}
	return list
}

func TestWideOf(t *testing.T) {
	for _, place := range []int{0, base / 2, base, base * base / 2, base * base, -base / 2, -base, -base * base / 2} {
		for by := -3; by <= 3; by++ {
			number := place + by
			if got := bigOf(t, wideOf(number)); got.Cmp(big.NewInt(int64(number))) != 0 {
				t.Error(number, got)
			}
		}
	}
}

// Sums, products and signs by exact numbers of any size, and no number changed
func TestWide(t *testing.T) {
	list := slices.Concat(someWide(60, 3, 1), someWide(40, 20, 2), someWide(6, 300, 3))
	for _, a := range list {
		before := slices.Clone(a)
		x := bigOf(t, a)
		if a.sign() != x.Sign() {
			t.Error(a, x)
		}
		for _, b := range list {
			y := bigOf(t, b)
			if got := bigOf(t, a.times(b)); got.Cmp(new(big.Int).Mul(x, y)) != 0 {
				t.Error(a, b, got)
			}
			for _, factor := range []int{-100, -7, -1, 0, 1, 2, 100} {
				want := new(big.Int).Mul(y, big.NewInt(int64(factor)))
				if got := bigOf(t, a.plus(factor, b)); got.Cmp(want.Add(want, x)) != 0 {
					t.Error(a, factor, b, got)
				}
			}
		}
		if !slices.Equal(a, before) {
			t.Error(a, before)
		}
	}
}

// The largest digits of all, in products larger than those of a chain
func TestWideLimits(t *testing.T) {
	for _, digit := range []int{-base / 2, base/2 - 1} {
		a := settled(slices.Repeat([]int{digit}, 1000))
		x := bigOf(t, a)
		if got := bigOf(t, a.times(a)); got.Cmp(new(big.Int).Mul(x, x)) != 0 {
			t.Error(digit)
		}
	}
}
