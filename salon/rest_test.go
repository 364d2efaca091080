package salon_test

import (
	"fmt"
	"math/big"
	"math/rand"
	"strings"
	"testing"

	"cloche/api"
	"cloche/fits"
	"cloche/mesh"
	"cloche/salon"
	"cloche/tones"
	"cloche/waves"
)

// P10.10: lasts
func TestLasts(t *testing.T) {
	tell(t, salon.New(),
		"lasts 0 3 1 0", "3/4 1/4",
		"lasts 2 0 0 1", "1 0 / 0 1",
		"lasts 0 0 0 0", "-",
		"lasts 1 1 0 0", "1 0",
		"lasts 0 0 1 1", "0 1",
		"lasts 0 2 -1 -1 0 2 2 -1 0", "1/3 1/3 1/3",
		"lasts 0 1 -1 -1 0 1 1 -1 0", "-",
		"lasts 1 0 0 0 1 0 0 0 1", "1 0 0 / 0 1 0 / 0 0 1",
		"lasts 0 2 0 1 0 0 0 0 5", "2/3 1/3 0 / 0 0 1",
		"lasts 20 -20 -20 20", "1 0 / 0 1",
		"lasts 21 0 0 0", "! 2", "lasts 0 0 0 -21", "! 2", "lasts 0 0 0 0 1125899906842624 0 0 0 0", "! 2", "lasts 0 0 0 0 0 0 0 0 21", "! 2",
	)
}

// P10.10: lasts, beside layer 6; the table is given row by row
func TestRandomLasts(t *testing.T) {
	r := rand.New(rand.NewSource(100))
	for range 600 {
		n := 2 + r.Intn(2)
		table := make([][]int, n)
		line := "lasts"
		for i := range table {
			for range n {
				gain := r.Intn(9) - 4
				table[i] = append(table[i], gain)
				line += fmt.Sprint(" ", gain)
			}
		}
		list, _ := fits.Lasting(table)
		var texts []string
		for _, x := range list {
			var words []string
			for _, num := range x.Nums {
				words = append(words, big.NewRat(int64(num), int64(x.Den)).RatString())
			}
			texts = append(texts, strings.Join(words, " "))
		}
		want := strings.Join(texts, " / ")
		if want == "" {
			want = "-"
		}
		tell(t, salon.New(), line, want)
	}
}

// P10.10: waves
func TestWaves(t *testing.T) {
	s := salon.New()
	for n := range 11 {
		count, _ := waves.Count(n)
		tell(t, s, fmt.Sprint("waves ", n), fmt.Sprint(count))
	}
	tell(t, s, "waves 0", "1", "waves 5", "16", "waves 10", "50521", "waves -1", "! 2", "waves 11", "! 2", "waves 1125899906842624", "! 2")
}

// P10.10: tones
func TestTones(t *testing.T) {
	s := salon.New()
	tell(t, s,
		"tones 0", "0 1", "tones 2 1", "-1 0 1", "tones 6 5 3", "-2 -3 0 1", "tones 30 1 1 1 1", "0 0 0 -4 0 1", "tones 10 5 10 5 0", "0 0 0 -4 0 1",
		"tones 0 0 0 0 0 0 0", "0 0 0 0 0 0 0 1",
		"tones 1", "! 2", "tones 2 0", "! 2", "tones -1", "! 2", "tones 4 1", "! 2", "tones 1125899906842624", "! 2",
	)
	r := rand.New(rand.NewSource(101))
	for range 300 {
		n := 1 + r.Intn(7)
		frame := make([]int, n)
		for a := range n {
			for b := range a {
				if r.Intn(2) == 0 {
					frame[a] |= 1 << b
					frame[b] |= 1 << a
				}
			}
		}
		polynomial, _ := tones.Tones(frame)
		tell(t, s, "tones "+strings.Trim(fmt.Sprint(frame), "[]"), strings.Trim(fmt.Sprint(polynomial), "[]"))
	}
}

// P10.10: chance, of all chances
func TestChances(t *testing.T) {
	for num := range 11 {
		for den := range 11 {
			want := "! 2" // den is 0, or the chance is above 1
			if den > 0 && num <= den {
				p := big.NewRat(int64(num), int64(den))
				not := new(big.Rat).Sub(big.NewRat(1, 1), p)
				want = new(big.Rat).Sub(big.NewRat(1, 1), new(big.Rat).Mul(not, not)).RatString()
			}
			tell(t, salon.New(), fmt.Sprint("chance ", num, "/", den, " 0 1 1 0"), want)
		}
	}
}

// P10.10: words that are no chance, and the errors that come after these
func TestNoChances(t *testing.T) {
	s := salon.New()
	for _, word := range []string{"1", "0", "1/", "/1", "/", "1//2", "1/2/3", "1/2/", "/1/2", "01/2", "1/02", "00/1", "1/00", "+1/2", "-1/2", "1/-2", "-0/1", "0/-1", "-1/-2", "11/12", "1/11", "11/1", "10/11", "1/99999999999999999999", "1/1125899906842624", "1/1125899906842625", "x", "x/y", "1/x", "x/1", "1.0/2", "1:2", "1\\2", "a", "-", "~", "0.5", strings.Repeat("/", 200), strings.Repeat("1", 200)} {
		tell(t, s, "chance "+word+" 0 1", "! 5", "chance "+word+" 0 0", "! 5", "chance "+word+" 0 9", "! 5")
	}
	tell(t, s,
		"chance 1/2 0 0", "! 2", "chance 1/2 0 8", "! 2", "chance 1/2 -1 0", "! 2", "chance 1/2 0 1 7 7", "! 2", "chance 1/2 0 1125899906842624", "! 2",
		"chance 1/0 0 1", "! 2", "chance 0/0 0 1", "! 2", "chance 1/0 0 0", "! 2", "chance 3/2 0 1", "! 2", "chance 10/9 0 1", "! 2",
		"chance 10/10 0 1", "1", "chance 0/10 0 1", "0", "chance 6/9 0 1", "2/3", "chance 1/10 0 1", "1/10", "chance 9/10 0 1", "9/10",
	)
}

// P10.10: chance, of several threads, beside layer 7
func TestThreads(t *testing.T) {
	s := salon.New()
	tell(t, s,
		"chance 1/2 0 1 0 1", "3/4", "chance 1/2 0 2 2 1", "1/4", "chance 1/2 0 2 2 1 0 3 3 1", "7/16", "chance 1/2 0 2 2 1 0 3 3 1 2 3", "1/2",
		"chance 1/1 2 3", "0", "chance 1/1 0 7 7 6 6 5 5 4 4 3 3 2 2 1", "1", "chance 9/10 0 7 7 6 6 5 5 4 4 3 3 2 2 1", "4782969/10000000",
		"chance 1/10"+strings.Repeat(" 0 1", 13), "7458134171671/10000000000000",
	)
	r := rand.New(rand.NewSource(102))
	for range 60 {
		den := 1 + r.Intn(10)
		num := r.Intn(den + 1)
		line := fmt.Sprint("chance ", num, "/", den)
		var threads []api.Pair
		for range 1 + r.Intn(13) {
			a, b := r.Intn(8), r.Intn(7)
			if b >= a {
				b++
			}
			threads = append(threads, api.Pair{A: a, B: b})
			line += fmt.Sprint(" ", a, " ", b)
		}
		count, _ := mesh.Count(8, threads, 0, 1)
		tell(t, s, line, chanceOf(count, big.NewRat(int64(num), int64(den))).RatString())
	}
}

// chanceOf reckons the chance of a count, number by number.
func chanceOf(count []int, p *big.Rat) *big.Rat {
	sum, not := new(big.Rat), new(big.Rat).Sub(big.NewRat(1, 1), p)
	for k, number := range count {
		part := big.NewRat(int64(number), 1)
		for i := range len(count) - 1 {
			if i < k {
				part.Mul(part, p)
			} else {
				part.Mul(part, not)
			}
		}
		sum.Add(sum, part)
	}
	return sum
}
