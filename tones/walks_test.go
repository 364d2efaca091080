package tones_test

import (
	"math/big"
	"testing"

	"cloche/api"
	"cloche/tones"
)

// P8.3: walks that are plain
func TestPlainWalks(t *testing.T) {
	for _, c := range []struct {
		frame []int
		walks []int
	}{
		{bare(1), []int{1, 0, 0}},
		{bare(7), []int{7, 0, 0, 0}},
		{wire, []int{2, 0, 2, 0, 2}},
		{triangle, []int{3, 0, 6, 6, 18}},
		{star(5), []int{5, 0, 8, 0, 32}},
		{square, []int{5, 0, 8, 0, 32}},
		{row(4), []int{4, 0, 6, 0, 14}},
		{ring(5), []int{5, 0, 10, 0, 30, 10}},
		{full(4), []int{4, 0, 12, 24, 84}},
	} {
		for steps, want := range c.walks {
			if got, e := tones.Walks(c.frame, steps); got != want || e != api.OK {
				t.Error(c, steps, got, e)
			}
		}
	}
}

// P8.3: the most walks that there are, which have a rule of their own
func TestManyWalks(t *testing.T) {
	for n := 1; n <= 7; n++ {
		power, sign := 1, 1
		for steps := range 17 {
			want := power + (n-1)*sign
			if got, e := tones.Walks(full(n), steps); got != want || e != api.OK {
				t.Error(n, steps, got, e, want)
			}
			power, sign = power*(n-1), -sign
		}
	}
}

// walked counts the lists of knots, one by one.
func walked(frame []int, home, at, steps int) int {
	if steps == 0 {
		if at == home {
			return 1
		}
		return 0
	}
	sum := 0
	for next := range frame {
		if frame[at]>>next&1 == 1 {
			sum += walked(frame, home, next, steps-1)
		}
	}
	return sum
}

// P8.3: Walks by the words of the chapter
func TestWalks(t *testing.T) {
	for _, frame := range someFrames(100, 30) {
		for steps := range 6 {
			want := 0
			for home := range frame {
				want += walked(frame, home, home, steps)
			}
			if got, e := tones.Walks(frame, steps); got != want || e != api.OK {
				t.Error(frame, steps, got, e, want)
			}
		}
	}
}

// P8.3: Walks by the powers of the table, up to the most steps
func TestLongWalks(t *testing.T) {
	for _, frame := range append(named(), randomFrames(200, 31)...) {
		n := len(frame)
		power := make([][]*big.Int, n)
		for i := range power {
			for k := range n {
				power[i] = append(power[i], big.NewInt(int64((1<<i)>>k&1)))
			}
		}
		for steps := range 17 {
			want := new(big.Int)
			for i := range n {
				want.Add(want, power[i][i])
			}
			if got, e := tones.Walks(frame, steps); big.NewInt(int64(got)).Cmp(want) != 0 || e != api.OK {
				t.Error(frame, steps, got, e, want)
			}
			next := make([][]*big.Int, n)
			for i := range next {
				for k := range n {
					sum := new(big.Int)
					for by := range n {
						if frame[by]>>k&1 == 1 {
							sum.Add(sum, power[i][by])
						}
					}
					next[i] = append(next[i], sum)
				}
			}
			power = next
		}
	}
}

// P8.3: the error of the number of steps
func TestNoWalks(t *testing.T) {
	no := refused(t, api.ErrArg)
	for _, frame := range named() {
		for _, steps := range noNumbers {
			if steps != 8 {
				no(noneOf(tones.Walks(frame, steps)))
			}
		}
	}
}
