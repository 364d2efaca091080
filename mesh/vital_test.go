package mesh_test

import (
	"math/bits"
	"slices"
	"testing"

	"cloche/api"
	"cloche/mesh"
)

// vitalIn returns, for each k, how many pairs there are of a set with k threads and a
// thread that is vital in it, of those in the set and of the others.
func vitalIn(m net, tables []table, a, b int) (inside, outside []int) {
	inside, outside = make([]int, len(m.threads)+1), make([]int, len(m.threads)+1)
	for set, joins := range tables {
		k := bits.OnesCount(uint(set))
		for thread := range m.threads {
			if tables[set^1<<thread][a][b] == joins[a][b] {
				continue
			}
			if set>>thread&1 == 1 {
				inside[k]++
			} else {
				outside[k]++
			}
		}
	}
	return inside, outside
}

// P7.3: vital threads that are plain
func TestPlainVital(t *testing.T) {
	for _, c := range []struct {
		m    net
		a, b int
		want []int
	}{
		{net{2, nil}, 0, 1, []int{0}},
		{net{2, threads(1, 0)}, 0, 1, []int{1, 1}},
		{net{2, threads(1, 0)}, 1, 1, []int{0, 0}},
		{twice, 0, 1, []int{2, 2, 0}},
		{ring, 0, 1, []int{0, 4, 12, 8, 0}},
		{apart, 0, 1, []int{0, 0, 0, 0}},
		{apart, 0, 2, []int{2, 4, 2, 0}},
		{apart, 3, 1, []int{1, 3, 3, 1}},
		{line, 0, 1, []int{0, 0, 0, 0, 0, 0, 7, 7}},
		{bundle(13), 0, 1, []int{13, 13, 0, 0, 0, 0, 0, 0, 0, 0, 0, 0, 0, 0}},
	} {
		if got, e := mesh.Vital(c.m.n, c.m.threads, c.a, c.b); !slices.Equal(got, c.want) || e != api.OK {
			t.Error(c, got, e)
		}
	}
}

// P7.3: Vital by the words of the chapter
func TestVital(t *testing.T) {
	for _, m := range slices.Concat(named, allNets(2, 4), allNets(3, 3), randomNets(80, 9, 7), randomNets(10, 13, 8)) {
		tables := tablesOf(m)
		for a := range m.n {
			for b := range m.n {
				inside, outside := vitalIn(m, tables, a, b)
				got, e := mesh.Vital(m.n, m.threads, a, b)
				if len(got) != len(inside) || e != api.OK {
					t.Fatal(m, a, b, got, e)
				}
				for k := range got {
					if got[k] != inside[k]+outside[k] {
						t.Error(m, a, b, got, inside, outside)
					}
				}
			}
		}
	}
}
