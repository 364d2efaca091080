package mesh_test

import (
	"math/rand"
	"slices"
	"testing"

	"cloche/api"
	"cloche/mesh"
)

// ways returns all ways from a knot to another one that come to no knot twice, as
// sets of threads.
func ways(m net, a, b, passed int) []int {
	if a == b {
		return []int{0}
	}
	var sets []int
	for i, thread := range m.threads {
		next := thread.A + thread.B - a
		if (thread.A == a || thread.B == a) && passed>>next&1 == 0 {
			for _, set := range ways(m, next, b, passed|1<<next) {
				sets = append(sets, set|1<<i)
			}
		}
	}
	return sets
}

// apartIn reports whether a set has a way of each list, of which no thread is in both.
func apartIn(set int, one, other []int) bool {
	for _, way := range one {
		if way&^set == 0 {
			for _, second := range other {
				if second&^set == 0 && way&second == 0 {
					return true
				}
			}
		}
	}
	return false
}

// parted reports whether the threads of a set from one on can be given to two sets,
// such that a and b are joined in the one, and c and d in the other one.
func parted(m net, tables []table, set, from int, one, other int, k [4]int) bool {
	if from == len(m.threads) {
		return tables[one][k[0]][k[1]] && tables[other][k[2]][k[3]]
	}
	if set>>from&1 == 0 {
		return parted(m, tables, set, from+1, one, other, k)
	}
	return parted(m, tables, set, from+1, one|1<<from, other, k) || parted(m, tables, set, from+1, one, other|1<<from, k)
}

// P7.2: pairs of knots that are plain
func TestPlainPairs(t *testing.T) {
	for _, c := range []struct {
		m           net
		k           [4]int
		both, apart []int
	}{
		{net{2, nil}, [4]int{0, 0, 1, 1}, []int{1}, []int{1}},
		{net{2, nil}, [4]int{0, 0, 0, 1}, []int{0}, []int{0}},
		{twice, [4]int{0, 1, 0, 1}, []int{0, 2, 1}, []int{0, 0, 1}},
		{twice, [4]int{0, 1, 1, 0}, []int{0, 2, 1}, []int{0, 0, 1}},
		{twice, [4]int{0, 0, 1, 0}, []int{0, 2, 1}, []int{0, 2, 1}},
		{twice, [4]int{0, 1, 1, 1}, []int{0, 2, 1}, []int{0, 2, 1}},
		{twice, [4]int{0, 0, 0, 0}, []int{1, 2, 1}, []int{1, 2, 1}},
		{ring, [4]int{0, 1, 2, 3}, []int{0, 0, 0, 4, 1}, []int{0, 0, 0, 0, 0}},
		{ring, [4]int{0, 1, 0, 1}, []int{0, 0, 2, 4, 1}, []int{0, 0, 0, 0, 1}},
		{ring, [4]int{0, 2, 1, 3}, []int{0, 0, 1, 4, 1}, []int{0, 0, 1, 2, 1}},
		{apart, [4]int{0, 2, 1, 3}, []int{0, 0, 2, 1}, []int{0, 0, 2, 1}},
		{apart, [4]int{0, 2, 2, 0}, []int{0, 2, 3, 1}, []int{0, 0, 1, 1}},
		{apart, [4]int{0, 2, 0, 1}, []int{0, 0, 0, 0}, []int{0, 0, 0, 0}},
		{bridge, [4]int{0, 1, 2, 3}, []int{0, 0, 0, 8, 5, 1}, []int{0, 0, 0, 2, 4, 1}},
		{line, [4]int{0, 6, 4, 1}, []int{0, 0, 0, 0, 0, 1, 2, 1}, []int{0, 0, 0, 0, 0, 1, 2, 1}},
		{line, [4]int{0, 4, 5, 1}, []int{0, 0, 0, 0, 0, 0, 0, 1}, []int{0, 0, 0, 0, 0, 0, 0, 0}},
	} {
		k := c.k
		if got, e := mesh.Both(c.m.n, c.m.threads, k[0], k[1], k[2], k[3]); !slices.Equal(got, c.both) || e != api.OK {
			t.Error("Both", c, got, e)
		}
		if got, e := mesh.Apart(c.m.n, c.m.threads, k[0], k[1], k[2], k[3]); !slices.Equal(got, c.apart) || e != api.OK {
			t.Error("Apart", c, got, e)
		}
	}
}

// checkPairs compares Both and Apart with the sets that have the property.
func checkPairs(t *testing.T, m net, tables []table, k [4]int, apart func(set int) bool) {
	t.Helper()
	want := counted(len(m.threads), func(set int) bool { return tables[set][k[0]][k[1]] && tables[set][k[2]][k[3]] })
	if got, e := mesh.Both(m.n, m.threads, k[0], k[1], k[2], k[3]); !slices.Equal(got, want) || e != api.OK {
		t.Error("Both", m, k, got, e, want)
	}
	want = counted(len(m.threads), apart)
	if got, e := mesh.Apart(m.n, m.threads, k[0], k[1], k[2], k[3]); !slices.Equal(got, want) || e != api.OK {
		t.Error("Apart", m, k, got, e, want)
	}
}

// P7.2: Both and Apart by the words of the chapter
func TestPairs(t *testing.T) {
	r := rand.New(rand.NewSource(3))
	for _, m := range slices.Concat(named[:7], allNets(2, 3), allNets(3, 2), randomNets(150, 8, 4)) {
		tables := tablesOf(m)
		for range 12 {
			k := [4]int{r.Intn(m.n), r.Intn(m.n), r.Intn(m.n), r.Intn(m.n)}
			checkPairs(t, m, tables, k, func(set int) bool { return parted(m, tables, set, 0, 0, 0, k) })
		}
	}
}

// P7.2: Both and Apart of large meshes, by ways that have no thread in common
func TestLargePairs(t *testing.T) {
	r := rand.New(rand.NewSource(5))
	for _, m := range append(randomNets(30, 13, 6), named...) {
		tables := tablesOf(m)
		for range 4 {
			k := [4]int{r.Intn(m.n), r.Intn(m.n), r.Intn(m.n), r.Intn(m.n)}
			one, other := ways(m, k[0], k[1], 1<<k[0]), ways(m, k[2], k[3], 1<<k[2])
			checkPairs(t, m, tables, k, func(set int) bool { return apartIn(set, one, other) })
		}
	}
}
