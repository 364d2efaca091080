package mesh_test

import (
	"math/big"
	"slices"
	"testing"

	"cloche/api"
	"cloche/mesh"
)

// distance is the number of threads on the shortest way, by waves from a; -1 if there
// is none.
func distance(m net, a, b int) int {
	from := slices.Repeat([]int{-1}, m.n)
	from[a] = 0
	for step := range m.n {
		for _, thread := range m.threads {
			for _, ends := range [][2]int{{thread.A, thread.B}, {thread.B, thread.A}} {
				if from[ends[0]] == step && from[ends[1]] < 0 {
					from[ends[1]] = step + 1
				}
			}
		}
	}
	return from[b]
}

// flow is how many ways from a to b there are at most with no thread in common,
// which is how many threads part them (Menger), by ways that take back what others
// have used.
func flow(m net, a, b int) int {
	used := make([]int, len(m.threads)) // 1 from A to B, -1 from B to A
	most := 0
	for {
		reached := map[int]bool{a: true}
		var push func(at int) bool
		push = func(at int) bool {
			if at == b {
				return true
			}
			for i, thread := range m.threads {
				for _, way := range []int{1, -1} {
					from, to := thread.A, thread.B
					if way < 0 {
						from, to = to, from
					}
					if from == at && used[i] != way && !reached[to] {
						reached[to] = true
						if push(to) {
							used[i] += way
							return true
						}
					}
				}
			}
			return false
		}
		if !push(a) {
			return most
		}
		most++
	}
}

// P7.5: steps that are plain, and their errors
func TestPlainSteps(t *testing.T) {
	for _, c := range []struct {
		m              net
		a, b, few, cut int
	}{
		{net{2, threads(1, 0)}, 0, 1, 1, 1},
		{twice, 0, 1, 1, 2},
		{ring, 0, 1, 2, 2},
		{ring, 3, 0, 1, 2},
		{bridge, 0, 1, 2, 2},
		{bridge, 2, 3, 1, 3},
		{apart, 2, 0, 1, 2},
		{apart, 3, 1, 1, 1},
		{line, 0, 1, 7, 1},
		{line, 6, 4, 2, 1},
		{cube, 0, 6, 3, 3},
		{bundle(13), 1, 0, 1, 13},
	} {
		if few, cut, e := mesh.Steps(c.m.n, c.m.threads, c.a, c.b); few != c.few || cut != c.cut || e != api.OK {
			t.Error(c, few, cut, e)
		}
	}
	no := refused(t, api.ErrPlan)
	no(two(mesh.Steps(2, nil, 0, 1)))
	no(two(mesh.Steps(2, nil, 0, 0)))
	no(two(mesh.Steps(ring.n, ring.threads, 1, 1)))
	no(two(mesh.Steps(ring.n, ring.threads[:1], 0, 1)))
	no(two(mesh.Steps(apart.n, apart.threads, 0, 1)))
	no(two(mesh.Steps(apart.n, apart.threads, 4, 3)))
}

// P7.5: Steps by shortest ways, and by ways with no thread in common
func TestSteps(t *testing.T) {
	no := refused(t, api.ErrPlan)
	for _, m := range slices.Concat(named, allNets(2, 4), allNets(3, 3), randomNets(200, 8, 10), randomNets(25, 13, 11)) {
		for a := range m.n {
			for b := range m.n {
				few, cut, e := mesh.Steps(m.n, m.threads, a, b)
				if a == b || distance(m, a, b) < 0 {
					no(two(few, cut, e))
				} else if few != distance(m, a, b) || cut != flow(m, a, b) || e != api.OK {
					t.Error(m, a, b, few, cut, e)
				}
			}
		}
	}
}

// P7.5: sets that join all knots, where this is plain
func TestPlainWhole(t *testing.T) {
	for _, c := range []struct {
		m    net
		want []int
	}{
		{net{2, nil}, []int{0}},
		{net{8, nil}, []int{0}},
		{net{2, threads(1, 0)}, []int{0, 1}},
		{net{3, threads(1, 0)}, []int{0, 0}},
		{twice, []int{0, 2, 1}},
		{ring, []int{0, 0, 0, 4, 1}},
		{bridge, []int{0, 0, 0, 8, 5, 1}},
		{apart, []int{0, 0, 0, 0}},
		{net{4, apart.threads}, []int{0, 0, 0, 0}},
		{net{3, threads(1, 2)}, []int{0, 0}},
		{line, []int{0, 0, 0, 0, 0, 0, 0, 1}},
	} {
		if got, e := mesh.Whole(c.m.n, c.m.threads); !slices.Equal(got, c.want) || e != api.OK {
			t.Error(c, got, e)
		}
	}
}

// trees is the number of ways to join all knots with the fewest threads, by Kirchhoff's
// determinant.
func trees(m net) int {
	rows := make([][]*big.Rat, m.n-1)
	for i := range rows {
		for range rows {
			rows[i] = append(rows[i], new(big.Rat))
		}
	}
	add := func(i, k int, by int64) {
		if i < len(rows) && k < len(rows) {
			rows[i][k].Add(rows[i][k], big.NewRat(by, 1))
		}
	}
	for _, thread := range m.threads {
		add(thread.A, thread.A, 1)
		add(thread.B, thread.B, 1)
		add(thread.A, thread.B, -1)
		add(thread.B, thread.A, -1)
	}
	product := big.NewRat(1, 1)
	for i := range rows { // no rows change places: with 0 on the way down, all is 0
		product.Mul(product, rows[i][i])
		if product.Sign() == 0 {
			return 0
		}
		for k := i + 1; k < len(rows); k++ {
			factor := new(big.Rat).Quo(rows[k][i], rows[i][i])
			for j := i; j < len(rows); j++ {
				rows[k][j].Sub(rows[k][j], new(big.Rat).Mul(factor, rows[i][j]))
			}
		}
	}
	return int(product.Num().Int64())
}

// P7.5: Whole by the words of the chapter, and by trees
func TestWhole(t *testing.T) {
	for _, m := range slices.Concat(named, allNets(2, 4), allNets(3, 3), randomNets(100, 9, 12), randomNets(15, 13, 13)) {
		tables := tablesOf(m)
		want := counted(len(m.threads), func(set int) bool {
			for a := range m.n {
				for b := range m.n {
					if !tables[set][a][b] {
						return false
					}
				}
			}
			return true
		})
		got, e := mesh.Whole(m.n, m.threads)
		if !slices.Equal(got, want) || e != api.OK {
			t.Error(m, got, e, want)
		}
		if len(got) >= m.n && got[m.n-1] != trees(m) {
			t.Error(m, got, trees(m))
		}
	}
}
