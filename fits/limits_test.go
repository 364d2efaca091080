package fits_test

import (
	"math/big"
	"testing"

	"cloche/api"
	"cloche/fits"
)

// P6.4: limits that are plain, and both errors
func TestPlainLimits(t *testing.T) {
	first, second := pure(2, 0), pure(2, 1)
	great := [][]int{{20, -20}, {-20, 20}}
	for _, c := range []struct {
		table [][]int
		x, y  api.Parts
		want  api.Ratio
		e     api.Errno
	}{
		{[][]int{{5}}, pure(1, 0), pure(1, 0), api.Ratio{}, api.ErrPlan},
		{both, first, second, api.Ratio{Num: 2, Den: 3}, api.OK},
		{both, second, first, api.Ratio{Num: 1, Den: 3}, api.OK},
		{both, first, parts(2, 1, 1), api.Ratio{Num: 1, Den: 1}, api.OK}, // against y, both gain the same
		{both, first, parts(4, 1, 3), api.Ratio{Num: 8, Den: 9}, api.OK},
		{both, first, first, api.Ratio{}, api.ErrPlan},
		{both, parts(3, 1, 2), parts(3, 1, 2), api.Ratio{}, api.ErrPlan}, // though it does not last
		{both, parts(3, 1, 2), parts(3, 2, 1), api.Ratio{}, api.ErrState},
		{both, parts(3, 1, 2), first, api.Ratio{}, api.ErrState},
		{both, parts(2, 1, 1), first, api.Ratio{}, api.ErrState},
		{both, parts(2, 1, 1), second, api.Ratio{Num: 1, Den: 3}, api.OK}, // it is not at rest, but y gains less
		{doves, parts(4, 3, 1), first, api.Ratio{Num: 1, Den: 1}, api.OK},
		{doves, parts(4, 3, 1), parts(4, 1, 3), api.Ratio{Num: 1, Den: 1}, api.OK},
		{doves, first, second, api.Ratio{}, api.ErrState},
		{squareOf(2), first, second, api.Ratio{}, api.ErrState}, // both always gain the same
		{[][]int{{1, 0}, {1, 0}}, first, second, api.Ratio{}, api.ErrState},
		{[][]int{{1, 1}, {1, 0}}, first, second, api.Ratio{Num: 1, Den: 1}, api.OK}, // the same against x, more against y
		{[][]int{{1, 0}, {1, 1}}, first, second, api.Ratio{}, api.ErrState},         // the same against x, less against y
		{[][]int{{1, 0}, {0, 0}}, first, second, api.Ratio{Num: 1, Den: 1}, api.OK}, // more against x, the same against y
		{[][]int{{1, 0}, {0, 1}}, first, second, api.Ratio{Num: 1, Den: 2}, api.OK},
		{great, parts(10000, 9999, 1), parts(9999, 1, 9998), api.Ratio{Num: 4999 * 9999, Den: 9999*9999 - 10000}, api.OK}, // where half of all are the first one
		{ring, parts(3, 1, 1, 1), pure(3, 2), api.Ratio{Num: 1, Den: 1}, api.OK},
		{worse, parts(3, 1, 1, 1), pure(3, 2), api.Ratio{}, api.ErrState},
	} {
		if r, e := fits.Limit(c.table, c.x, c.y); r != c.want || e != c.e {
			t.Error(c, r, e)
		}
	}
}

// leadAt is what x gains more than y against 1 - d parts of x and d parts of y.
func leadAt(table [][]int, x, y api.Parts, d *big.Rat) *big.Rat {
	total := new(big.Rat)
	part := func(z api.Parts, i int) *big.Rat { return big.NewRat(int64(z.Nums[i]), int64(z.Den)) }
	rest := new(big.Rat).Sub(big.NewRat(1, 1), d)
	for k := range table {
		met := new(big.Rat).Mul(rest, part(x, k))
		met.Add(met, new(big.Rat).Mul(d, part(y, k)))
		for i := range table {
			more := new(big.Rat).Sub(part(x, i), part(y, i))
			more.Mul(more, met)
			total.Add(total, more.Mul(more, big.NewRat(int64(table[i][k]), 1)))
		}
	}
	return total
}

// checkLimit goes by the words of the chapter. The lead is on a straight line
// over d, so a few parts show where it is above 0.
func checkLimit(t *testing.T, table [][]int, x, y api.Parts) {
	t.Helper()
	r, e := fits.Limit(table, x, y)
	if same(x, y) {
		if e != api.ErrPlan || !isZero(r) {
			t.Error(table, x, y, r, e)
		}
		return
	}
	start := leadAt(table, x, y, new(big.Rat)).Sign()
	end := leadAt(table, x, y, big.NewRat(1, 1)).Sign()
	if start < 0 || start == 0 && end <= 0 {
		if e != api.ErrState || !isZero(r) {
			t.Error(table, x, y, r, e)
		}
		return
	}
	if e != api.OK || r.Den < 1 || r.Num < 1 || r.Num > r.Den {
		t.Error(table, x, y, r, e)
		return
	}
	limit := big.NewRat(int64(r.Num), int64(r.Den))
	if int64(r.Num) != limit.Num().Int64() || r != (api.Ratio{Num: 1, Den: 1}) && leadAt(table, x, y, limit).Sign() != 0 {
		t.Error(table, x, y, r)
	}
	for _, below := range []*big.Rat{big.NewRat(1, 1000), big.NewRat(1, 2), big.NewRat(999999, 1000000)} {
		if leadAt(table, x, y, below.Mul(below, limit)).Sign() <= 0 {
			t.Error(table, x, y, r, below)
		}
	}
}

// P6.4: limits of small and of great denominators
func TestLimits(t *testing.T) {
	tables := randomTables(40, 20, 5)
	tables = append(tables, randomTables(40, 1, 6)...)
	tables = append(tables, doves, both, ring, worse)
	for _, table := range tables {
		mixtures := mixturesOf(len(table), 4)
		for _, x := range mixtures {
			for _, y := range mixtures {
				checkLimit(t, table, x, y)
			}
		}
	}
	great := [][]api.Parts{nil, {pure(1, 0)},
		{parts(10000, 1, 9999), parts(10000, 9999, 1), parts(9999, 9998, 1), parts(9999, 1, 9998), parts(9997, 5000, 4997), pure(2, 0), pure(2, 1)},
		{parts(10000, 1, 0, 9999), parts(10000, 9998, 1, 1), parts(9999, 0, 9998, 1), parts(9999, 1, 9998, 0), parts(9997, 3333, 3332, 3332), parts(9998, 1, 1, 9996), pure(3, 1)},
	}
	extreme := [][][]int{{{20, -20}, {-20, 20}}, {{-20, 20}, {20, -20}}, {{20, 20}, {-20, -20}}, {{20, 19}, {19, 20}}, {{20, -20, -20}, {-20, 20, -20}, {-20, -20, 20}}, {{20, 20, -20}, {-20, -20, 19}, {20, -19, 20}}}
	for _, table := range append(extreme, randomTables(200, 20, 7)...) {
		for _, x := range great[len(table)] {
			for _, y := range great[len(table)] {
				checkLimit(t, table, x, y)
			}
		}
	}
}
