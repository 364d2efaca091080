package fits_test

import (
	"cmp"
	"math"
	"math/big"
	"math/rand"
	"reflect"
	"slices"
	"testing"

	"cloche/api"
	"cloche/fits"
)

func parts(den int, nums ...int) api.Parts { return api.Parts{Nums: nums, Den: den} }

var (
	doves = [][]int{{0, 3}, {1, 0}}
	both  = [][]int{{2, 0}, {0, 1}}
	ring  = [][]int{{0, 2, -1}, {-1, 0, 2}, {2, -1, 0}}
	worse = [][]int{{0, 1, -2}, {-2, 0, 1}, {1, -2, 0}}
)

var noTables = [][][]int{
	nil,
	{},
	{nil},
	{{}},
	{{1, 2}},
	{{21}},
	{{-21}},
	{{math.MinInt}},
	{{math.MaxInt}},
	{{1 << 32}},
	{{1}, {1}},
	{{1, 2}, nil},
	{nil, {1, 2}},
	{{1, 2}, {3}},
	{{1, 2}, {3, 4, 5}},
	{{1, 2, 3}, {4, 5, 6}},
	{{0, 21}, {0, 0}},
	{{0, 0}, {0, -21}},
	{{0, 0, 0}, {0, 0, 0}, {0, 0}},
	{{0, 0, 0}, {0, 0, 0}, {0, 0, 0, 0}},
	{{0, 0, 0}, {0, 0, 0}, {0, 0, 21}},
	{{0, 0, 0}, {-21, 0, 0}, {0, 0, 0}},
	{{0, 0, 0, 0}, {0, 0, 0, 0}, {0, 0, 0, 0}, {0, 0, 0, 0}},
	make([][]int, 1),
	make([][]int, 3),
	make([][]int, 4),
	make([][]int, 100000),
}

// noMixtures are no mixtures, of two fashions and of any number of them.
var noMixtures = []api.Parts{
	{},
	parts(1),
	parts(1, 1),
	parts(1, 0, 0),
	parts(1, 2, -1),
	parts(1, -1, 2),
	parts(2, 1, 0),
	parts(2, 1, 2),
	parts(2, 2, 0),
	parts(4, 2, 2),
	parts(0, 0, 0),
	parts(0, 1, -1),
	parts(-1, -1, 0),
	parts(-2, -1, -1),
	parts(-2, 1, 1),
	parts(10001, 1, 10000),
	parts(20000, 1, 19999),
	parts(1, math.MaxInt, math.MinInt+2),
	parts(2, math.MaxInt, math.MaxInt-1),
	parts(2, math.MinInt, math.MinInt+2),
	parts(math.MaxInt, 1, math.MaxInt-1),
	parts(math.MinInt, 0, math.MinInt),
	parts(3, 1, 1, 1, 0),
	{Nums: make([]int, 100000), Den: 1},
}

// grid returns all lists of n numbers from 0 on that sum to den.
func grid(n, den int) [][]int {
	if n == 1 {
		return [][]int{{den}}
	}
	var lists [][]int
	for first := range den + 1 {
		for _, rest := range grid(n-1, den-first) {
			lists = append(lists, append([]int{first}, rest...))
		}
	}
	return lists
}

// divides reports whether a number above 1 divides all of them.
func divides(numbers []int, most int) bool {
	for d := 2; d <= most; d++ {
		if !slices.ContainsFunc(numbers, func(number int) bool { return number%d != 0 }) {
			return true
		}
	}
	return false
}

// mixturesOf returns all mixtures of n fashions with denominators up to most.
func mixturesOf(n, most int) []api.Parts {
	var list []api.Parts
	for den := 1; den <= most; den++ {
		for _, nums := range grid(n, den) {
			if !divides(nums, den) {
				list = append(list, api.Parts{Nums: nums, Den: den})
			}
		}
	}
	return list
}

// pure is the mixture of one of n fashions.
func pure(n, fashion int) api.Parts {
	nums := make([]int, n)
	nums[fashion] = 1
	return api.Parts{Nums: nums, Den: 1}
}

// tablesOf returns all tables of n rows with numbers from -most to most, and
// with 0 for a fashion against itself.
func tablesOf(n, most int) [][][]int {
	tables := [][][]int{squareOf(n)}
	for i := range n {
		for k := range n {
			if i == k {
				continue
			}
			var more [][][]int
			for _, table := range tables {
				for number := -most; number <= most; number++ {
					more = append(more, with(table, i, k, number))
				}
			}
			tables = more
		}
	}
	return tables
}

func squareOf(n int) [][]int {
	table := make([][]int, n)
	for i := range table {
		table[i] = make([]int, n)
	}
	return table
}

func cloned(table [][]int) [][]int {
	copied := slices.Clone(table)
	for i, row := range table {
		copied[i] = slices.Clone(row)
	}
	return copied
}

func with(table [][]int, i, k, number int) [][]int {
	copied := cloned(table)
	copied[i][k] = number
	return copied
}

// randomTables returns tables with numbers from -most to most.
func randomTables(many, most int, seed int64) [][][]int {
	r := rand.New(rand.NewSource(seed))
	var tables [][][]int
	for range many {
		table := squareOf(1 + r.Intn(3))
		for _, row := range table {
			for k := range row {
				row[k] = r.Intn(2*most+1) - most
			}
		}
		tables = append(tables, table)
	}
	return tables
}

// whole is g(x, y) times both denominators, by the words of the chapter.
func whole(table [][]int, x, y api.Parts) int {
	total := 0
	for i := range table {
		for k := range table {
			total += x.Nums[i] * y.Nums[k] * table[i][k]
		}
	}
	return total
}

// gainOf is g(x, y).
func gainOf(table [][]int, x, y api.Parts) *big.Rat {
	return big.NewRat(int64(whole(table, x, y)), int64(x.Den*y.Den))
}

// compared compares what x and y gain against z.
func compared(table [][]int, x, y, z api.Parts) int {
	return cmp.Compare(whole(table, x, z)*y.Den, whole(table, y, z)*x.Den)
}

func fashionsOf(x api.Parts) int {
	set := 0
	for i, num := range x.Nums {
		if num != 0 {
			set |= 1 << i
		}
	}
	return set
}

func same(x, y api.Parts) bool { return x.Den == y.Den && slices.Equal(x.Nums, y.Nums) }

func sameAll(a, b []api.Parts) bool { return slices.EqualFunc(a, b, same) }

func isZero(v any) bool {
	value := reflect.ValueOf(v)
	return value.IsZero() || value.Kind() == reflect.Slice && value.Len() == 0
}

// refused fails the test if there is not this error, and nothing beside it.
func refused(t *testing.T, want api.Errno) func(v any, e api.Errno) {
	return func(v any, e api.Errno) {
		t.Helper()
		if e != want || !isZero(v) {
			t.Error(v, e, want)
		}
	}
}

// value fails the test where there is an error.
func value[T any](t *testing.T) func(T, api.Errno) T {
	return func(v T, e api.Errno) T {
		t.Helper()
		if e != api.OK {
			t.Fatal(v, e)
		}
		return v
	}
}

func noneOf[T any](v T, e api.Errno) (any, api.Errno) { return v, e }

// The errors of all functions with what is no table: ErrArg, and nothing beside
// it (rule 2), whatever else is wrong.
func TestNoTables(t *testing.T) {
	no := refused(t, api.ErrArg)
	half := parts(2, 1, 1)
	for _, table := range noTables {
		for _, x := range []api.Parts{{}, half, pure(1, 0), pure(3, 0)} {
			no(noneOf(fits.Gain(table, x, half)))
			no(noneOf(fits.AtRest(table, x)))
			no(noneOf(fits.Best(table, x)))
			no(noneOf(fits.Lasts(table, x)))
			no(noneOf(fits.Limit(table, x, half)))
			no(noneOf(fits.Limit(table, x, x)))
		}
		no(noneOf(fits.Lasting(table)))
		for _, number := range []int{-1, 0, 1, 3} {
			no(noneOf(fits.Resting(table, number)))
			no(noneOf(fits.Shifted(table, number, 0)))
		}
		for _, order := range [][]int{nil, {0}, {0, 1}, {0, 1, 2}} {
			no(noneOf(fits.Renamed(table, order)))
		}
	}
}

// The errors of all functions with what is no mixture: ErrArg, also where ErrPlan
// or ErrState would come later
func TestNoMixtures(t *testing.T) {
	no := refused(t, api.ErrArg)
	for _, x := range append([]api.Parts{pure(1, 0), pure(3, 0), parts(3, 1, 1, 1)}, noMixtures...) {
		if fits.IsMixture(2, x) {
			t.Error(x)
		}
		for _, y := range []api.Parts{x, pure(2, 0), parts(2, 1, 1)} {
			no(noneOf(fits.Gain(doves, x, y)))
			no(noneOf(fits.Gain(doves, y, x)))
			no(noneOf(fits.Limit(doves, x, y)))
			no(noneOf(fits.Limit(doves, y, x)))
		}
		no(noneOf(fits.AtRest(doves, x)))
		no(noneOf(fits.Best(doves, x)))
		no(noneOf(fits.Lasts(doves, x)))
	}
}

// IsMixture, of all small numbers and of numbers of fashions that there are not
func TestIsMixture(t *testing.T) {
	for n := 1; n <= 3; n++ {
		mixtures := mixturesOf(n, 12)
		for _, x := range mixtures {
			for _, m := range []int{math.MinInt, -1, 0, 1, 2, 3, 4, 5, math.MaxInt} {
				if got := fits.IsMixture(m, x); got != (m == n) {
					t.Error(m, x, got)
				}
			}
		}
		for den := -1; den <= 5; den++ {
			for code := range 7 * 7 * 7 {
				nums := []int{code%7 - 1, code/7%7 - 1, code/49 - 1}[:n]
				x := api.Parts{Nums: nums, Den: den}
				want := slices.ContainsFunc(mixtures, func(y api.Parts) bool { return same(x, y) })
				if got := fits.IsMixture(n, x); got != want {
					t.Error(n, x, got)
				}
			}
		}
	}
	for _, n := range []int{math.MinInt, -1, 0, 4, 5, math.MaxInt} {
		for _, x := range []api.Parts{{}, {Den: 1}, parts(1, 1, 0, 0, 0), parts(1, 1, 0, 0, 0, 0)} {
			if fits.IsMixture(n, x) {
				t.Error(n, x)
			}
		}
	}
	for _, x := range []api.Parts{parts(1, math.MaxInt, math.MaxInt, 3), parts(7, math.MaxInt, math.MaxInt, 9), parts(2, math.MinInt, math.MinInt, 2)} {
		if fits.IsMixture(3, x) { // the numbers only seem to sum to Den
			t.Error(x)
		}
	}
	for _, x := range noMixtures {
		for n := -1; n < 6; n++ {
			if fits.IsMixture(n, x) && !(n == 1 && same(x, pure(1, 0))) {
				t.Error(n, x)
			}
		}
	}
}

// IsMixture, with denominators near MaxDen
func TestGreatestDen(t *testing.T) {
	for _, c := range []struct {
		x    api.Parts
		want bool
	}{
		{parts(9999, 1, 9998), true},
		{parts(10000, 1, 9999), true},
		{parts(10000, 9999, 1), true},
		{parts(10000, 2, 9998), false},
		{parts(10000, 10000, 0), false},
		{parts(10001, 1, 10000), false},
		{parts(10007, 1, 10006), false},
	} {
		if got := fits.IsMixture(2, c.x); got != c.want {
			t.Error(c, got)
		}
		three := parts(c.x.Den, 0, c.x.Nums[0], c.x.Nums[1])
		if got := fits.IsMixture(3, three); got != c.want {
			t.Error(three, got)
		}
	}
}
