package tones_test

import (
	"math"
	"math/big"
	"math/rand"
	"testing"

	"cloche/api"
	"cloche/tones"
)

// P8.4: values that are plain
func TestPlainValues(t *testing.T) {
	for _, c := range []struct {
		p       []int
		x, want int
	}{
		{nil, 5, 0},
		{[]int{}, -100, 0},
		{[]int{7}, 100, 7},
		{[]int{0, 1}, -100, -100},
		{[]int{1, 2, 3}, 0, 1},
		{[]int{1, 2, 3}, 10, 321},
		{[]int{1, 2, 3}, -10, 281},
		{[]int{-2, -3, 0, 1}, 2, 0},
		{[]int{-10000, 0, 0, 0, 0, 0, 0, 10000}, -100, -1000000000000010000},
		{[]int{10000, 10000, 10000, 10000, 10000, 10000, 10000, 10000}, 100, 1010101010101010000},
		{[]int{-10000, -10000, -10000, -10000, -10000, -10000, -10000, -10000}, 100, -1010101010101010000},
	} {
		if got, e := tones.Value(c.p, c.x); got != c.want || e != api.OK {
			t.Error(c, got, e)
		}
	}
}

// P8.4: zeros that are plain; the places are without low, and with high
func TestPlainZeros(t *testing.T) {
	for _, c := range []struct {
		p               []int
		low, high, want int
	}{
		{[]int{5}, -100, 100, 0},
		{[]int{-5}, 0, 0, 0},
		{[]int{0, 1}, 0, 0, 0},
		{[]int{0, 1}, -1, 0, 1},
		{[]int{0, 1}, 0, 1, 0},
		{[]int{0, -1}, -1, 0, 1},
		{[]int{-1, 0, 1}, -1, 1, 1},
		{[]int{-1, 0, 1}, -2, 1, 2},
		{[]int{-1, 0, 1}, -2, 0, 1},
		{[]int{-1, 0, 1}, 0, 0, 0},
		{[]int{-1, 0, 1}, 1, 1, 0},
		{[]int{1, 0, 1}, -100, 100, 0},
		{[]int{0, 0, 1}, -1, 0, 1},
		{[]int{0, 0, 1}, 0, 1, 0},
		{[]int{0, 0, 0, 0, 0, 0, 0, 1}, -100, 0, 1},
		{[]int{0, 0, 0, 0, 0, 0, 0, -10000}, -1, 100, 1},
		{[]int{0, 0, 0, 0, 0, 0, 0, 1}, 0, 100, 0},
		{[]int{0, 0, 1, -2, 1}, -1, 1, 2},
		{[]int{0, 0, 1, -2, 1}, 0, 1, 1},
		{[]int{0, 0, 1, -2, 1}, -1, 0, 1},
		{[]int{0, 0, 1, -2, 1}, 1, 2, 0},
		{[]int{-10000, 0, 1}, -100, 100, 1},
		{[]int{-10000, 0, 1}, -99, 99, 0},
		{[]int{9900, -199, 1}, 99, 100, 1},
		{[]int{9900, -199, 1}, 98, 100, 2},
		{[]int{-1, 100}, 0, 1, 1},
		{[]int{-10000, 9999}, 1, 2, 1},
		{[]int{-10000, 1}, -100, 100, 0},
		{[]int{1, 0, 0, 0, 0, 0, 0, 10000}, -1, 0, 1},
		{[]int{1, -4, 4}, 0, 1, 1},
		{[]int{-2, 0, 1}, 1, 2, 1},
		{[]int{-6, -35, -84, -105, -70, -21, 0, 1}, -7, 6, 2},
		{[]int{-6, -35, -84, -105, -70, -21, 0, 1}, -1, 6, 1},
		{[]int{-6, -35, -84, -105, -70, -21, 0, 1}, -7, 5, 1},
	} {
		if got, e := tones.Zeros(c.p, c.low, c.high); got != c.want || e != api.OK {
			t.Error(c, got, e)
		}
	}
}

// Two zeros that are very near to each other, and none where they just fail to be
func TestNearZeros(t *testing.T) {
	for a := 2; a <= 70; a++ {
		for _, c := range []struct{ lead, low, high, want int }{{1, 0, 1, 2}, {-1, 0, 1, 0}, {1, -1, 0, 0}, {-1, -100, 0, 1}, {1, 0, 100, 3}} {
			p := []int{-2, 4 * a, -2 * a * a, 0, 0, 0, 0, c.lead} // x^7 on one side, 2 (a x - 1)^2 on the other
			if got, e := tones.Zeros(p, c.low, c.high); got != c.want || e != api.OK {
				t.Error(p, c, got, e)
			}
			for k := 1; k < len(p); k += 2 {
				p[k] = -p[k]
			}
			if got, e := tones.Zeros(p, -c.high, -c.low); got != c.want || e != api.OK {
				t.Error(p, c, got, e)
			}
		}
	}
}

// product multiplies polynomials.
func product(factors ...[]int) []int {
	p := []int{1}
	for _, factor := range factors {
		next := make([]int, len(p)+len(factor)-1)
		for i, a := range p {
			for k, b := range factor {
				next[i+k] += a * b
			}
		}
		p = next
	}
	return p
}

func allowed(p []int) bool {
	for _, number := range p {
		if number < -10000 || number > 10000 {
			return false
		}
	}
	return len(p) <= 8 && (len(p) == 0 || p[len(p)-1] != 0)
}

// P8.4: Zeros of products whose zeros are known: whole numbers, halves and such, and
// of factors that have none
func TestKnownZeros(t *testing.T) {
	r := rand.New(rand.NewSource(60))
	tried := 0
	for tried < 3000 {
		p := []int{r.Intn(4) - 7}
		zeros := map[[2]int]bool{}
		most := []int{1, 2, 3, 5, 100}[r.Intn(5)]
		for range r.Intn(6) {
			num, den := r.Intn(2*most+1)-most, 1+r.Intn(3)
			for times := r.Intn(3) + 1; times > 0; times-- {
				p = product(p, []int{-num, den})
			}
			common := int(new(big.Int).GCD(nil, nil, big.NewInt(int64(max(num, -num))), big.NewInt(int64(den))).Int64())
			zeros[[2]int{num / common, den / common}] = true
		}
		if r.Intn(2) == 0 {
			b := r.Intn(5) - 2
			p = product(p, []int{b*b + 1, 2 * b, 1})
		}
		if !allowed(p) {
			continue
		}
		tried++
		for range 10 {
			low := max(r.Intn(2*most+2)-most-1, -100)
			high := min(low+r.Intn(most+3), 100)
			want := 0
			for zero := range zeros {
				if zero[0] > low*zero[1] && zero[0] <= high*zero[1] {
					want++
				}
			}
			if got, e := tones.Zeros(p, low, high); got != want || e != api.OK {
				t.Error(p, low, high, got, e, want)
			}
		}
	}
}

// fractions is a polynomial, without a 0 as its last number.
type fractions []*big.Rat

func fractionsOf(numbers []int) fractions {
	var p fractions
	for _, number := range numbers {
		p = append(p, big.NewRat(int64(number), 1))
	}
	return p
}

func (p fractions) slope() fractions {
	var slope fractions
	for k := 1; k < len(p); k++ {
		slope = append(slope, new(big.Rat).Mul(p[k], big.NewRat(int64(k), 1)))
	}
	return slope
}

// over divides, and returns what is left, too.
func (p fractions) over(by fractions) (quotient, left fractions) {
	for _, number := range p {
		left = append(left, new(big.Rat).Set(number))
	}
	for len(left) >= len(by) {
		behind := len(left) - len(by)
		factor := new(big.Rat).Quo(left[len(left)-1], by[len(by)-1])
		quotient = append(fractions{factor}, quotient...)
		for k := range by {
			left[k+behind].Sub(left[k+behind], new(big.Rat).Mul(factor, by[k]))
		}
		left = left[:len(left)-1]
	}
	for len(left) > 0 && left[len(left)-1].Sign() == 0 {
		left = left[:len(left)-1]
	}
	return quotient, left
}

// common is the greatest common divisor of p and its derivative.
func (p fractions) common() fractions {
	a, b := p, p.slope()
	for len(b) > 0 {
		_, left := a.over(b)
		a, b = b, left
	}
	return a
}

// simple is p with each of its zeros once.
func (p fractions) simple() fractions {
	quotient, left := p.over(p.common())
	if len(left) > 0 {
		panic("not a divisor")
	}
	return quotient
}

func (p fractions) at(x *big.Rat) *big.Rat {
	sum := new(big.Rat)
	for k := len(p) - 1; k >= 0; k-- {
		sum.Add(sum.Mul(sum, x), p[k])
	}
	return sum
}

// atMost returns how many changes of signs (1 + X)^n p((low + high X) / (1 + X)) has:
// as many zeros as p has between low and high, or an even number more (Descartes).
func (p fractions) atMost(low, high *big.Rat) int {
	sum := fractions{}
	for k := len(p) - 1; k >= 0; k-- { // Horner's rule, with the powers of 1 + X beside it
		next := make(fractions, len(sum)+1)
		for i := range next {
			next[i] = new(big.Rat)
		}
		for i, number := range sum {
			next[i].Add(next[i], new(big.Rat).Mul(number, low))
			next[i+1].Add(next[i+1], new(big.Rat).Mul(number, high))
		}
		binomial := big.NewRat(1, 1)
		for i := range next {
			next[i].Add(next[i], new(big.Rat).Mul(p[k], binomial))
			binomial.Mul(binomial, big.NewRat(int64(len(sum)-i), int64(i+1)))
		}
		sum = next
	}
	changes, before := 0, 0
	for _, number := range sum {
		if sign := number.Sign(); sign != 0 {
			if sign == -before {
				changes++
			}
			before = sign
		}
	}
	return changes
}

// between returns how many zeros a polynomial with simple zeros has between low and
// high, by halving.
func (p fractions) between(low, high *big.Rat) int {
	if most := p.atMost(low, high); most <= 1 {
		return most
	}
	half := new(big.Rat).Add(low, high)
	half.Mul(half, big.NewRat(1, 2))
	zeros := p.between(low, half) + p.between(half, high)
	if p.at(half).Sign() == 0 {
		zeros++
	}
	return zeros
}

// zeros returns how many a polynomial with simple zeros has above low and at most high.
func (p fractions) zeros(low, high int) int {
	if low == high {
		return 0
	}
	from, to := big.NewRat(int64(low), 1), big.NewRat(int64(high), 1)
	zeros := p.between(from, to)
	if p.at(to).Sign() == 0 {
		zeros++
	}
	return zeros
}

// randomPolynomials are of all lengths, with small and with large numbers, many of them
// products.
func randomPolynomials(many int, seed int64) [][]int {
	r := rand.New(rand.NewSource(seed))
	random := func(length, most int) []int {
		var p []int
		for range length {
			p = append(p, r.Intn(2*most+1)-most)
		}
		if p[length-1] == 0 {
			p[length-1] = most
		}
		return p
	}
	var list [][]int
	for len(list) < many {
		most := []int{1, 3, 20, 100, 10000}[r.Intn(5)]
		p := random(1+r.Intn(8), most)
		switch r.Intn(4) {
		case 0:
			factor := random(1+r.Intn(4), 3)
			p = product(random(1+r.Intn(3), most), factor, factor)
		case 1:
			for k := range p {
				if r.Intn(2) == 0 {
					p[k] = 10000 * (2*r.Intn(2) - 1)
				}
			}
		}
		if allowed(p) {
			list = append(list, p)
		}
	}
	return list
}

// P8.4: Zeros by the signs of Descartes, and Value by exact numbers of any size
func TestZerosAndValues(t *testing.T) {
	r := rand.New(rand.NewSource(61))
	many := [8]int{}
	for _, p := range randomPolynomials(500, 62) {
		simple := fractionsOf(p).simple()
		for _, most := range []int{2, 5, 100} {
			low := r.Intn(2*most+1) - most
			high := low + r.Intn(most-low+1)
			for _, ends := range [][2]int{{low, high}, {-most, most}, {low, low}, {min(low, 0), 0}} {
				want := simple.zeros(ends[0], ends[1])
				many[want]++
				if got, e := tones.Zeros(p, ends[0], ends[1]); got != want || e != api.OK {
					t.Error(p, ends, got, e, want)
				}
			}
			want := fractionsOf(p).at(big.NewRat(int64(low), 1))
			if got, e := tones.Value(p, low); want.Cmp(big.NewRat(int64(got), 1)) != 0 || e != api.OK {
				t.Error(p, low, got, e, want)
			}
		}
	}
	if many[4] == 0 {
		t.Error("no polynomial with many zeros:", many)
	}
}

// P8.4: Zeros of all small polynomials of at most four numbers
func TestAllSmallZeros(t *testing.T) {
	for code := range 5 * 5 * 5 * 5 {
		p := []int{code%5 - 2, code/5%5 - 2, code/25%5 - 2, code/125 - 2}
		for len(p) > 0 && p[len(p)-1] == 0 {
			p = p[:len(p)-1]
		}
		if len(p) == 0 {
			continue
		}
		simple := fractionsOf(p).simple()
		for low := -3; low <= 3; low++ {
			for high := low; high <= 3; high++ {
				if got, e := tones.Zeros(p, low, high); got != simple.zeros(low, high) || e != api.OK {
					t.Error(p, low, high, got, e)
				}
			}
		}
	}
}

// The errors of Zeros and Value: the length comes first, then the numbers, then (of
// Zeros) that there are none, and then the places
func TestNoZeros(t *testing.T) {
	long, bad := refused(t, api.ErrLimit), refused(t, api.ErrArg)
	none := refused(t, api.ErrState)
	places := wires(0, 1, 1, 0, 0, 0, -101, 0, 0, 101, math.MinInt, math.MaxInt, math.MaxInt, math.MinInt)
	for _, ends := range places {
		for _, p := range [][]int{make([]int, 9), {0, 0, 0, 0, 0, 0, 0, 0, 1}, {10001, 0, 0, 0, 0, 0, 0, 0, 1}, make([]int, 100000)} {
			long(noneOf(tones.Zeros(p, ends.A, ends.B)))
			long(noneOf(tones.Value(p, ends.A)))
		}
		for _, p := range [][]int{{0}, {1, 0}, make([]int, 8), {10001}, {-10001}, {10001, 1}, {1, -10001, 1}, {math.MinInt}, {math.MaxInt}, {0, math.MinInt, 1}, {1, 1, 1, 1, 1, 1, 1, 1 << 32}, {10001, 0}} {
			bad(noneOf(tones.Zeros(p, ends.A, ends.B)))
			bad(noneOf(tones.Value(p, ends.A)))
		}
		none(noneOf(tones.Zeros(nil, ends.A, ends.B)))
		none(noneOf(tones.Zeros([]int{}, ends.A, ends.B)))
	}
	for _, p := range [][]int{{1}, {0, 1}, {-10000, 0, 0, 0, 0, 0, 0, 10000}} {
		for _, place := range []int{math.MinInt, -1 << 32, -102, -101, 101, 102, 1 << 32, math.MaxInt} {
			for _, ends := range wires(0, place, place, 0, place, place, -100, place, place, 100) {
				bad(noneOf(tones.Zeros(p, ends.A, ends.B)))
			}
			bad(noneOf(tones.Value(p, place)))
			bad(noneOf(tones.Value(nil, place)))
		}
		bad(noneOf(tones.Zeros(p, 1, 0)))
		bad(noneOf(tones.Zeros(p, 100, -100)))
		bad(noneOf(tones.Zeros(p, 0, -1)))
	}
}
