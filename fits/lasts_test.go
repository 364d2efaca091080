package fits_test

import (
	"math"
	"math/big"
	"slices"
	"testing"

	"cloche/api"
	"cloche/fits"
)

// atRestAmong and lastsAmong go by the words of the chapter, among some others.
func atRestAmong(table [][]int, x api.Parts, others []api.Parts) bool {
	return !slices.ContainsFunc(others, func(y api.Parts) bool { return compared(table, y, x, x) > 0 })
}

func lastsAmong(table [][]int, x api.Parts, others []api.Parts) bool {
	return !slices.ContainsFunc(others, func(y api.Parts) bool {
		gain := compared(table, y, x, x)
		return gain > 0 || gain == 0 && !same(x, y) && compared(table, x, y, y) <= 0
	})
}

// restingAmong returns the mixtures with just these fashions against which all
// of them, alone, gain the same.
func restingAmong(table [][]int, fashions int, mixtures []api.Parts) []api.Parts {
	var list []api.Parts
	for _, x := range mixtures {
		if fashionsOf(x) != fashions {
			continue
		}
		gains := map[int]bool{}
		for i := range table {
			if fashions>>i&1 == 1 {
				gains[whole(table, pure(len(table), i), x)] = true
			}
		}
		if len(gains) == 1 {
			list = append(list, x)
		}
	}
	return list
}

// lead is g(x, y) - g(y, y).
func lead(table [][]int, x, y api.Parts) *big.Rat {
	return new(big.Rat).Sub(gainOf(table, x, y), gainOf(table, y, y))
}

// staysAbove reports whether the lead of x over the mixtures of two fashions,
// both alone included, is above 0: it is a polynomial a t t + b t + c of the part
// t of the second one.
func staysAbove(table [][]int, x api.Parts, i, k int) bool {
	middle := parts(2, make([]int, len(table))...)
	middle.Nums[i], middle.Nums[k] = 1, 1
	n := len(table)
	first, half, last := lead(table, x, pure(n, i)), lead(table, x, middle), lead(table, x, pure(n, k))
	times := func(number int64, r *big.Rat) *big.Rat { return new(big.Rat).Mul(big.NewRat(number, 1), r) }
	sum := func(r, s *big.Rat) *big.Rat { return new(big.Rat).Add(r, s) }
	a := sum(times(2, first), sum(times(-4, half), times(2, last)))
	b := sum(times(-3, first), sum(times(4, half), times(-1, last)))
	if first.Sign() <= 0 || last.Sign() <= 0 {
		return false
	}
	if a.Sign() <= 0 || b.Sign() >= 0 || sum(times(2, a), b).Sign() <= 0 {
		return true // it is least at an end
	}
	return sum(times(4, new(big.Rat).Mul(a, first)), times(-1, new(big.Rat).Mul(b, b))).Sign() > 0
}

// lastsByEdges looks at the lead of a mixture at rest only on the edges, away
// from x, of all that gain most against it: between x and these, the lead grows
// with the square of the way.
func lastsByEdges(table [][]int, x api.Parts) bool {
	n, best, own := len(table), bestOf(table, x), fashionsOf(x)
	if own&^best != 0 {
		return false
	}
	for i := range n {
		if best>>i&1 == 0 || own == 1<<i {
			continue
		}
		if lead(table, x, pure(n, i)).Sign() <= 0 {
			return false
		}
		for k := i + 1; k < n; k++ {
			edge := 1<<i | 1<<k
			if edge&^best == 0 && own&^edge != 0 && !staysAbove(table, x, i, k) {
				return false
			}
		}
	}
	return true
}

// smallTables are tables whose resting mixtures have denominators up to 16, and
// for whose other mixtures at rest one with a denominator up to 16 shows that
// they do not last.
func smallTables() [][][]int {
	tables := [][][]int{{{0}}, {{1}}, {{-1}}}
	tables = append(tables, tablesOf(2, 2)...)
	tables = append(tables, tablesOf(3, 1)...)
	return append(tables, randomTables(250, 1, 3)...)
}

// P6.1 to P6.3 by the words of the chapter: all mixtures are tried
func TestSmallTables(t *testing.T) {
	mixtures := [][]api.Parts{nil, mixturesOf(1, 16), mixturesOf(2, 16), mixturesOf(3, 16)}
	for _, table := range smallTables() {
		n := len(table)
		var lasting []api.Parts
		for _, x := range mixtures[n] {
			rest := atRestAmong(table, x, mixtures[n])
			lasts := rest && lastsAmong(table, x, mixtures[n])
			if got, e := fits.AtRest(table, x); got != rest || e != api.OK {
				t.Error(table, x, got, e)
			}
			if got, e := fits.Lasts(table, x); got != lasts || e != api.OK {
				t.Error(table, x, got, e)
			}
			if lasts {
				lasting = append(lasting, x)
			}
		}
		slices.SortFunc(lasting, func(x, y api.Parts) int { return fashionsOf(x) - fashionsOf(y) })
		if list, e := fits.Lasting(table); !sameAll(list, lasting) || e != api.OK {
			t.Error(table, list, e, lasting)
		}
		for fashions := 1; fashions < 1<<n; fashions++ {
			x, e := fits.Resting(table, fashions)
			list := restingAmong(table, fashions, mixtures[n])
			if len(list) == 1 && (!same(x, list[0]) || e != api.OK) {
				t.Error(table, fashions, x, e, list)
			}
			if len(list) != 1 && (!isZero(x) || e != api.ErrPlan) {
				t.Error(table, fashions, x, e, list)
			}
		}
	}
}

// candidates are the resting mixtures of a table, and some others.
func candidates(t *testing.T, table [][]int, others []api.Parts) []api.Parts {
	list := slices.Clone(others)
	for fashions := 1; fashions < 1<<len(table); fashions++ {
		x, e := fits.Resting(table, fashions)
		if e == api.OK {
			list = append(list, x)
		} else if e != api.ErrPlan {
			t.Error(table, fashions, x, e)
		}
	}
	return list
}

// P6.3: tables with numbers of all sizes
func TestLasts(t *testing.T) {
	mixtures := [][]api.Parts{nil, mixturesOf(1, 4), mixturesOf(2, 4), mixturesOf(3, 4)}
	for most := 1; most <= 20; most++ {
		for _, table := range randomTables(300, most, int64(most)) {
			var lasting []api.Parts
			for _, x := range candidates(t, table, mixtures[len(table)]) {
				lasts := lastsByEdges(table, x)
				if got, e := fits.Lasts(table, x); got != lasts || e != api.OK {
					t.Error(table, x, got, e)
				}
				known := slices.ContainsFunc(lasting, func(y api.Parts) bool { return same(x, y) })
				if lasts && !known {
					lasting = append(lasting, x)
				}
			}
			slices.SortFunc(lasting, func(x, y api.Parts) int { return fashionsOf(x) - fashionsOf(y) })
			if list, e := fits.Lasting(table); !sameAll(list, lasting) || e != api.OK {
				t.Error(table, list, e, lasting)
			}
		}
	}
}

// P6.2: what Resting returns has just these fashions, and they gain the same; with
// two fashions, it is known where there is none or more than one.
func TestResting(t *testing.T) {
	for _, table := range randomTables(3000, 20, 4) {
		n := len(table)
		for fashions := 1; fashions < 1<<n; fashions++ {
			x, e := fits.Resting(table, fashions)
			if e == api.ErrPlan && isZero(x) {
				continue
			}
			if e != api.OK || !fits.IsMixture(n, x) || len(restingAmong(table, fashions, []api.Parts{x})) != 1 {
				t.Error(table, fashions, x, e)
			}
		}
	}
	for _, table := range tablesOf(2, 20) {
		one, other := table[0][1], table[1][0] // what each gains against the other one
		x, e := fits.Resting(table, 3)
		if one*other <= 0 {
			if e != api.ErrPlan || !isZero(x) {
				t.Error(table, x, e)
			}
			continue
		}
		if e != api.OK || x.Nums[0]*other != x.Nums[1]*one || !fits.IsMixture(2, x) {
			t.Error(table, x, e)
		}
	}
}

// P6.2: the examples, and tables whose answers are plain
func TestPlainResting(t *testing.T) {
	even := squareOf(3)
	for _, c := range []struct {
		table    [][]int
		fashions int
		want     api.Parts
		e        api.Errno
	}{
		{[][]int{{5}}, 1, pure(1, 0), api.OK},
		{doves, 1, pure(2, 0), api.OK},
		{doves, 2, pure(2, 1), api.OK},
		{doves, 3, parts(4, 3, 1), api.OK},
		{both, 3, parts(3, 1, 2), api.OK},
		{ring, 7, parts(3, 1, 1, 1), api.OK},
		{worse, 7, parts(3, 1, 1, 1), api.OK},
		{ring, 4, pure(3, 2), api.OK},
		{ring, 3, api.Parts{}, api.ErrPlan},
		{ring, 5, api.Parts{}, api.ErrPlan},
		{[][]int{{3, 1}, {2, 0}}, 3, api.Parts{}, api.ErrPlan}, // the first one always gains more
		{squareOf(2), 3, api.Parts{}, api.ErrPlan},             // all mixtures
		{[][]int{{3, 1}, {3, 1}}, 3, api.Parts{}, api.ErrPlan},
		{[][]int{{1, 0}, {0, 0}}, 3, api.Parts{}, api.ErrPlan}, // only the second one alone
		{even, 1, pure(3, 0), api.OK},
		{even, 6, api.Parts{}, api.ErrPlan},
		{even, 7, api.Parts{}, api.ErrPlan},
		{[][]int{{0, 1, 1}, {1, 0, 1}, {1, 1, 0}}, 7, parts(3, 1, 1, 1), api.OK},
		{[][]int{{0, 1, 9}, {1, 0, 9}, {9, 9, 0}}, 3, parts(2, 1, 1, 0), api.OK}, // the third one gains more
		{[][]int{{0, 9, 3}, {9, 0, 9}, {1, 9, 0}}, 5, parts(4, 3, 0, 1), api.OK},
		{[][]int{{0, 1, 0}, {1, 0, 0}, {1, 0, 0}}, 7, api.Parts{}, api.ErrPlan}, // any third part
		{[][]int{{0, 0, 1}, {0, 0, 1}, {1, 0, 0}}, 7, api.Parts{}, api.ErrPlan}, // two are the same
		{[][]int{{0, 1, 0}, {1, 0, 1}, {0, 1, 0}}, 7, api.Parts{}, api.ErrPlan}, // many
		{[][]int{{20, -20, 0}, {-20, 20, 0}, {-20, -20, 1}}, 7, parts(42, 1, 1, 40), api.OK},
		{[][]int{{20, -20, -20}, {-20, 20, -20}, {-20, -20, 20}}, 7, parts(3, 1, 1, 1), api.OK},
		{[][]int{{19, 20, -20}, {20, -20, 19}, {-20, 20, 20}}, 7, parts(4721, 1600, 1561, 1560), api.OK},
	} {
		if x, e := fits.Resting(c.table, c.fashions); !same(x, c.want) || e != c.e {
			t.Error(c, x, e)
		}
	}
}

// P6.2: no such set of fashions, also where another one has no mixture
func TestNoFashions(t *testing.T) {
	no := refused(t, api.ErrArg)
	for n, table := range [][][]int{nil, {{5}}, squareOf(2), ring} {
		if n == 0 {
			continue
		}
		for _, fashions := range []int{math.MinInt, -1 << 32, -8, -7, -1, 0, 1 << n, 1<<n + 1, 2<<n - 1, 64, 1 << 32, 1<<32 + 1, math.MaxInt} {
			no(noneOf(fits.Resting(table, fashions)))
		}
	}
}

// P6.3: the examples, and tables whose answers are plain
func TestPlainLasting(t *testing.T) {
	for _, c := range []struct {
		table [][]int
		want  []api.Parts
	}{
		{[][]int{{5}}, []api.Parts{pure(1, 0)}},
		{[][]int{{-20}}, []api.Parts{pure(1, 0)}},
		{doves, []api.Parts{parts(4, 3, 1)}},
		{both, []api.Parts{pure(2, 0), pure(2, 1)}},
		{ring, []api.Parts{parts(3, 1, 1, 1)}},
		{worse, nil},
		{squareOf(2), nil},
		{squareOf(3), nil},
		{[][]int{{1, 1}, {1, 0}}, []api.Parts{pure(2, 0)}},
		{[][]int{{1, 1}, {1, 1}}, nil},
		{[][]int{{1, 0}, {1, 1}}, []api.Parts{pure(2, 1)}},
		{[][]int{{1, 0, 0}, {0, 1, 0}, {0, 0, 1}}, []api.Parts{pure(3, 0), pure(3, 1), pure(3, 2)}},
		{[][]int{{0, 1, 1}, {1, 0, 1}, {1, 1, 0}}, []api.Parts{parts(3, 1, 1, 1)}},
		{[][]int{{2, 2, 0}, {2, 1, 0}, {1, 1, 1}}, []api.Parts{pure(3, 0), pure(3, 2)}},
		{[][]int{{0, 2, 0}, {2, 0, 0}, {0, 0, 1}}, []api.Parts{pure(3, 2), parts(2, 1, 1, 0)}}, // by numbers: 4 is after 3
	} {
		slices.SortFunc(c.want, func(x, y api.Parts) int { return fashionsOf(x) - fashionsOf(y) })
		if list, e := fits.Lasting(c.table); !sameAll(list, c.want) || e != api.OK {
			t.Error(c, list, e)
		}
	}
}

// P6.3: one fashion alone, against which two others gain as much: these may gain
// by each other, up to where a mixture of them does as well as the first one.
func TestAlonePressed(t *testing.T) {
	for _, c := range []struct {
		first, second, mixed int // what the others gain by themselves, and by each other
		want                 bool
	}{
		{-1, -1, -20, true},
		{-1, -1, 0, true},
		{-2, -2, 1, true},
		{-1, -4, 1, true},
		{-1, -1, 1, false}, // the same at equal parts
		{-1, -4, 2, false}, // the same at 2/3 and 1/3
		{-1, -4, 3, false},
		{0, -1, -1, false},
		{-1, 0, -1, false},
		{-1, -1, 2, false},
		{-20, -20, 19, true},
		{-20, -20, 20, false},
	} {
		table := [][]int{{0, 0, 0}, {0, c.first, c.mixed}, {0, c.mixed, c.second}}
		if got, e := fits.Lasts(table, pure(3, 0)); got != c.want || e != api.OK {
			t.Error(c, got, e)
		}
	}
}

// P6.3: a mixture of two, against which the third one gains as much, as to each
// side of it there are mixtures
func TestPairPressed(t *testing.T) {
	half := parts(2, 1, 1, 0)
	for _, c := range []struct {
		table [][]int
		want  bool
	}{
		{[][]int{{0, 2, 1}, {2, 0, 1}, {1, 1, 0}}, true},
		{[][]int{{0, 2, 1}, {2, 0, 1}, {1, 1, 1}}, false},  // the third one alone does as well
		{[][]int{{0, 2, 3}, {2, 0, -1}, {1, 1, 0}}, false}, // with the third one, the first one gains more
		{[][]int{{0, 2, -1}, {2, 0, 3}, {1, 1, 0}}, false}, // and here the second one
		{[][]int{{2, 0, 2}, {0, 2, 2}, {1, 1, 0}}, false},
	} {
		if got, e := fits.Lasts(c.table, half); got != c.want || e != api.OK {
			t.Error(c, got, e)
		}
		if got, e := fits.AtRest(c.table, half); !got || e != api.OK {
			t.Error(c, got, e)
		}
	}
}
