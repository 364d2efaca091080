package fits_test

import (
	"testing"

	"cloche/api"
	"cloche/fits"
)

// someTables are of all sizes, with numbers of all sizes; those with small ones
// have many mixtures at rest.
func someTables(many int, seed int64) [][][]int {
	tables := [][][]int{{{0}}, doves, both, ring, worse, squareOf(2), squareOf(3)}
	for i, most := range []int{1, 2, 4, 20} {
		tables = append(tables, randomTables(many, most, seed+int64(i))...)
	}
	return tables
}

// P6.6 (rest)
func TestRestByBest(t *testing.T) {
	is, set := value[bool](t), value[int](t)
	mixtures := [][]api.Parts{nil, mixturesOf(1, 6), mixturesOf(2, 6), mixturesOf(3, 6)}
	for _, table := range someTables(100, 20) {
		for _, x := range candidates(t, table, mixtures[len(table)]) {
			inBest := fashionsOf(x)&^set(fits.Best(table, x)) == 0
			if is(fits.AtRest(table, x)) != inBest {
				t.Error(table, x, inBest)
			}
		}
	}
}

// P6.7 (Bishop and Cannings)
func TestLastingApart(t *testing.T) {
	is, set, all := value[bool](t), value[int](t), value[[]api.Parts](t)
	mixtures := [][]api.Parts{nil, mixturesOf(1, 6), mixturesOf(2, 6), mixturesOf(3, 6)}
	several := 0
	for _, table := range someTables(250, 30) {
		lasting := all(fits.Lasting(table))
		for i, x := range lasting {
			best := set(fits.Best(table, x))
			for _, y := range candidates(t, table, mixtures[len(table)]) {
				if !same(x, y) && fashionsOf(y)&^best == 0 && is(fits.AtRest(table, y)) {
					t.Error(table, x, y)
				}
			}
			for _, y := range lasting[:i] {
				several++
				if a, b := fashionsOf(x), fashionsOf(y); b >= a || b&^a == 0 {
					t.Error(table, x, y)
				}
			}
		}
	}
	if several == 0 {
		t.Error("no table with several")
	}
}

// P6.8 (Haigh)
func TestTwoFashions(t *testing.T) {
	is := value[bool](t)
	for code := range 5 * 5 * 5 * 5 {
		table := [][]int{{code%5 - 2, code/5%5 - 2}, {code/25%5 - 2, code/125 - 2}}
		for i := range 2 {
			k := 1 - i
			want := table[i][i] > table[k][i] || table[i][i] == table[k][i] && table[i][k] > table[k][k]
			if got := is(fits.Lasts(table, pure(2, i))); got != want {
				t.Error(table, i, got)
			}
		}
		resting, e := fits.Resting(table, 3)
		for _, x := range mixturesOf(2, 8) {
			if fashionsOf(x) != 3 {
				continue
			}
			want := e == api.OK && same(x, resting) && table[1][0] > table[0][0] && table[0][1] > table[1][1]
			if got := is(fits.Lasts(table, x)); got != want {
				t.Error(table, x, got)
			}
		}
	}
}

// P6.9 (limits)
func TestLimitsOfLasting(t *testing.T) {
	mixtures := [][]api.Parts{nil, mixturesOf(1, 4), mixturesOf(2, 4), mixturesOf(3, 4)}
	for _, table := range someTables(100, 40) {
		n := len(table)
		for _, x := range candidates(t, table, mixtures[n]) {
			if value[bool](t)(fits.Lasts(table, x)) {
				for _, y := range candidates(t, table, mixtures[n]) {
					if r, e := fits.Limit(table, x, y); !same(x, y) && e != api.OK {
						t.Error(table, x, y, r, e)
					}
				}
			}
			refused := false
			for i := range n {
				_, e := fits.Limit(table, x, pure(n, i))
				refused = refused || e == api.ErrState
			}
			if !value[bool](t)(fits.AtRest(table, x)) && !refused {
				t.Error(table, x)
			}
		}
	}
}

// alike fails the test if two tables are not alike, x of the one being renamed(x)
// of the other one.
func alike(t *testing.T, one, other [][]int, mixtures []api.Parts, renamed func(api.Parts) api.Parts) {
	t.Helper()
	var lasting []api.Parts
	for _, x := range value[[]api.Parts](t)(fits.Lasting(one)) {
		lasting = append(lasting, renamed(x))
	}
	list := value[[]api.Parts](t)(fits.Lasting(other))
	if len(list) != len(lasting) {
		t.Error(one, other, lasting, list)
	}
	for _, x := range lasting {
		found := false
		for _, y := range list {
			found = found || same(x, y)
		}
		if !found {
			t.Error(one, other, x, list)
		}
	}
	for _, x := range mixtures {
		z := renamed(x)
		if value[bool](t)(fits.AtRest(one, x)) != value[bool](t)(fits.AtRest(other, z)) {
			t.Error("AtRest", one, other, x)
		}
		if value[bool](t)(fits.Lasts(one, x)) != value[bool](t)(fits.Lasts(other, z)) {
			t.Error("Lasts", one, other, x)
		}
		best := 0
		for i := range one {
			if value[int](t)(fits.Best(one, x))>>i&1 == 1 {
				best |= fashionsOf(renamed(pure(len(one), i)))
			}
		}
		if got := value[int](t)(fits.Best(other, z)); got != best {
			t.Error("Best", one, other, x, got)
		}
		for _, y := range mixtures {
			r, e := fits.Limit(one, x, y)
			if s, f := fits.Limit(other, z, renamed(y)); s != r || f != e {
				t.Error("Limit", one, other, x, y, r, e, s, f)
			}
		}
	}
}

// P6.10 (shifted)
func TestShiftedAlike(t *testing.T) {
	for i, table := range someTables(25, 50) {
		n := len(table)
		mixtures := candidates(t, table, mixturesOf(n, 3))
		shifted := table
		for column := range n {
			for _, by := range []int{13 - 7*column, -3, 2, i%5 - 2} {
				if next, e := fits.Shifted(shifted, column, by); e == api.OK {
					shifted = next
				}
			}
		}
		alike(t, table, shifted, mixtures, func(x api.Parts) api.Parts { return x })
	}
}

// P6.10 (renamed)
func TestRenamedAlike(t *testing.T) {
	for _, table := range someTables(15, 60) {
		n := len(table)
		mixtures := candidates(t, table, mixturesOf(n, 3))
		for _, order := range orders(n) {
			renamed := value[[][]int](t)(fits.Renamed(table, order))
			alike(t, table, renamed, mixtures, func(x api.Parts) api.Parts {
				y := parts(x.Den, make([]int, n)...)
				for i, was := range order {
					y.Nums[i] = x.Nums[was]
				}
				return y
			})
		}
	}
}

// P6.11 (rings)
func TestRings(t *testing.T) {
	equal := parts(3, 1, 1, 1)
	for a := 1; a <= 20; a++ {
		for b := 1; b <= 20; b++ {
			table := [][]int{{0, a, -b}, {-b, 0, a}, {a, -b, 0}}
			if rest, e := fits.AtRest(table, equal); !rest || e != api.OK {
				t.Error(a, b, rest, e)
			}
			if lasts, e := fits.Lasts(table, equal); lasts != (a > b) || e != api.OK {
				t.Error(a, b, lasts, e)
			}
			var want []api.Parts
			if a > b {
				want = []api.Parts{equal}
			}
			if list, e := fits.Lasting(table); !sameAll(list, want) || e != api.OK {
				t.Error(a, b, list, e)
			}
		}
	}
}
