package mesh_test

import (
	"math"
	"math/big"
	"math/rand"
	"slices"
	"testing"

	"cloche/api"
	"cloche/mesh"
)

func ratio(num, den int) api.Ratio { return api.Ratio{Num: num, Den: den} }

// chances returns all chances, ascending by their denominators.
func chances() []api.Ratio {
	list := []api.Ratio{ratio(0, 1), ratio(1, 1)}
	for den := 2; den <= 10; den++ {
		for num := 1; num < den; num++ {
			if new(big.Int).GCD(nil, nil, big.NewInt(int64(num)), big.NewInt(int64(den))).Int64() == 1 {
				list = append(list, ratio(num, den))
			}
		}
	}
	return list
}

func rat(r api.Ratio) *big.Rat { return big.NewRat(int64(r.Num), int64(r.Den)) }

func power(r *big.Rat, by int) *big.Rat {
	product := big.NewRat(1, 1)
	for range by {
		product.Mul(product, r)
	}
	return product
}

// chanceOf is the chance of a count, by the words of the chapter.
func chanceOf(count []int, p api.Ratio) *big.Rat {
	hold := rat(p)
	not := new(big.Rat).Sub(big.NewRat(1, 1), hold)
	sum := new(big.Rat)
	for k, number := range count {
		term := big.NewRat(int64(number), 1)
		term.Mul(term, power(hold, k))
		sum.Add(sum, term.Mul(term, power(not, len(count)-1-k)))
	}
	return sum
}

// sameRatio reports whether a Ratio is a number in lowest terms.
func sameRatio(r api.Ratio, want *big.Rat) bool {
	return want.Num().IsInt64() && int64(r.Num) == want.Num().Int64() && int64(r.Den) == want.Denom().Int64()
}

// P7.4: chances that are plain, in lowest terms
func TestPlainChance(t *testing.T) {
	most, ones := make([]int, 14), make([]int, 14)
	for k := range most {
		most[k], ones[k] = 50000, 1
	}
	last := append(make([]int, 13), 50000)
	for _, c := range []struct {
		count []int
		p     api.Ratio
		want  api.Ratio
	}{
		{[]int{0}, ratio(1, 2), ratio(0, 1)},
		{[]int{7}, ratio(1, 2), ratio(7, 1)},
		{[]int{7}, ratio(0, 1), ratio(7, 1)},
		{[]int{50000}, ratio(3, 10), ratio(50000, 1)},
		{[]int{3, 5}, ratio(0, 1), ratio(3, 1)},
		{[]int{3, 5}, ratio(1, 1), ratio(5, 1)},
		{[]int{3, 5}, ratio(1, 2), ratio(4, 1)},
		{[]int{3, 5}, ratio(1, 10), ratio(16, 5)},
		{[]int{0, 2, 1}, ratio(1, 2), ratio(3, 4)},
		{[]int{0, 2, 1}, ratio(1, 3), ratio(5, 9)},
		{[]int{0, 2, 1}, ratio(0, 1), ratio(0, 1)},
		{[]int{0, 2, 1}, ratio(1, 1), ratio(1, 1)},
		{[]int{0, 0, 0, 0}, ratio(3, 7), ratio(0, 1)},
		{[]int{1, 3, 3, 1}, ratio(3, 7), ratio(1, 1)},
		{ones, ratio(1, 2), ratio(7, 4096)},
		{most, ratio(1, 1), ratio(50000, 1)},
		{last, ratio(7, 10), ratio(96889010407, 200000000)},
		{last, ratio(1, 10), ratio(1, 200000000)},
		{last, ratio(9, 10), ratio(2541865828329, 200000000)},
	} {
		if got, e := mesh.Chance(c.count, c.p); got != c.want || e != api.OK {
			t.Error(c, got, e)
		}
	}
}

// P7.4: Chance by the words of the chapter, of lists of all lengths, with all chances
func TestChance(t *testing.T) {
	r := rand.New(rand.NewSource(9))
	for size := 1; size <= 14; size++ {
		for range 12 {
			count := make([]int, size)
			for k := range count {
				count[k] = []int{0, 1, r.Intn(12), r.Intn(50001), 49999, 50000}[r.Intn(6)]
			}
			for _, p := range chances() {
				if got, e := mesh.Chance(count, p); !sameRatio(got, chanceOf(count, p)) || e != api.OK {
					t.Error(count, p, got, e)
				}
			}
		}
	}
	top := slices.Repeat([]int{50000}, 14)
	for k := range top {
		top[k] = min(50000, 5000*choose(13, k))
	}
	for _, p := range chances() {
		if got, e := mesh.Chance(top, p); !sameRatio(got, chanceOf(top, p)) || e != api.OK {
			t.Error(p, got, e)
		}
	}
}

// P7.4: lists that are no counts; ErrLimit comes first
func TestNoCounts(t *testing.T) {
	for _, p := range []api.Ratio{ratio(1, 2), ratio(2, 4), {}} {
		no, long := refused(t, api.ErrArg), refused(t, api.ErrLimit)
		no(noneOf(mesh.Chance(nil, p)))
		no(noneOf(mesh.Chance([]int{}, p)))
		for _, number := range []int{math.MinInt, -50000, -1, 50001, 1 << 32, math.MaxInt} {
			no(noneOf(mesh.Chance([]int{number}, p)))
			for at := range 14 {
				count := make([]int, 14)
				count[at] = number
				no(noneOf(mesh.Chance(count, p)))
				long(noneOf(mesh.Chance(append(count, 0), p)))
				long(noneOf(mesh.Chance(append(count, number), p)))
			}
		}
		long(noneOf(mesh.Chance(make([]int, 15), p)))
		long(noneOf(mesh.Chance(make([]int, 100000), p)))
	}
}

// P7.4: ratios that are chances, and all others near them
func TestNoChances(t *testing.T) {
	no := refused(t, api.ErrArg)
	list := chances()
	for den := -12; den <= 12; den++ {
		for num := -13; num <= 13; num++ {
			p := ratio(num, den)
			got, e := mesh.Chance([]int{1, 1}, p)
			if !slices.Contains(list, p) {
				no(noneOf(got, e))
			} else if got != ratio(1, 1) || e != api.OK {
				t.Error(p, got, e)
			}
		}
	}
	for _, number := range []int{math.MinInt, math.MinInt + 1, -1 << 32, 1 << 32, 1<<32 + 1, math.MaxInt} {
		for _, p := range []api.Ratio{ratio(number, 1), ratio(number, 10), ratio(0, number), ratio(1, number), ratio(number, number), ratio(number-1, number)} {
			no(noneOf(mesh.Chance([]int{1, 1}, p)))
		}
	}
}
