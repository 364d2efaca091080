package mesh_test

import (
	"slices"
	"testing"

	"cloche/api"
	"cloche/mesh"
)

// P7.6: all boards, and what crosses them
func TestBoards(t *testing.T) {
	for size, c := range map[int]struct {
		n       int
		threads []api.Pair
		crossed []int
	}{
		1: {2, threads(0, 1), []int{0, 1}},
		2: {4, threads(0, 2, 2, 1, 0, 3, 3, 1, 2, 3), []int{0, 0, 2, 8, 5, 1}},
		3: {8, threads(0, 2, 2, 3, 3, 1, 0, 4, 4, 5, 5, 1, 0, 6, 6, 7, 7, 1, 2, 4, 3, 5, 4, 6, 5, 7), []int{0, 0, 0, 3, 38, 209, 627, 1089, 1078, 677, 283, 78, 13, 1}},
	} {
		if n, list, e := mesh.Board(size); n != c.n || !slices.Equal(list, c.threads) || e != api.OK {
			t.Error(size, n, list, e)
		}
		if list, e := mesh.Crossed(size); !slices.Equal(list, c.crossed) || e != api.OK {
			t.Error(size, list, e)
		}
		tables := tablesOf(net{c.n, c.threads})
		if want := counted(len(c.threads), func(set int) bool { return tables[set][0][1] }); !slices.Equal(c.crossed, want) {
			t.Error(size, want)
		}
	}
}

// P7.6: sizes that there are not
func TestNoBoards(t *testing.T) {
	no := refused(t, api.ErrArg)
	for _, size := range append([]int{0, 4, 5, 8}, noNumbers...) {
		n, list, e := mesh.Board(size)
		if n != 0 || len(list) != 0 || e != api.ErrArg {
			t.Error(size, n, list, e)
		}
		no(noneOf(mesh.Crossed(size)))
	}
}

// P7.7: one thread, where this is plain
func TestPlainWithout(t *testing.T) {
	for _, c := range []struct {
		m           net
		thread      int
		holds, does []int
	}{
		{net{2, threads(1, 0)}, 0, []int{1}, []int{0}},
		{net{3, threads(1, 2)}, 0, []int{0}, []int{0}},
		{twice, 0, []int{1, 1}, []int{0, 1}},
		{twice, 1, []int{1, 1}, []int{0, 1}},
		{ring, 0, []int{0, 1, 3, 1}, []int{0, 0, 1, 1}},
		{ring, 3, []int{0, 1, 3, 1}, []int{0, 0, 1, 1}},
		{bridge, 4, []int{0, 0, 4, 4, 1}, []int{0, 0, 2, 4, 1}},
		{apart, 2, []int{0, 0, 0}, []int{0, 0, 0}},
		{line, 3, []int{0, 0, 0, 0, 0, 0, 1}, []int{0, 0, 0, 0, 0, 0, 0}},
	} {
		if got, e := mesh.Without(c.m.n, c.m.threads, c.thread, true); !slices.Equal(got, c.holds) || e != api.OK {
			t.Error(c, got, e)
		}
		if got, e := mesh.Without(c.m.n, c.m.threads, c.thread, false); !slices.Equal(got, c.does) || e != api.OK {
			t.Error(c, got, e)
		}
	}
}

// P7.7: Without by the words of the chapter
func TestWithout(t *testing.T) {
	no := refused(t, api.ErrArg)
	for _, m := range slices.Concat(named, allNets(2, 4), allNets(3, 3), randomNets(80, 9, 14), randomNets(10, 13, 15)) {
		tables := tablesOf(m)
		for thread := range m.threads {
			holds, not := make([]int, len(m.threads)+1), make([]int, len(m.threads)+1)
			for set, joins := range tables {
				list, k := not, 0
				for i := range m.threads {
					k += set >> i & 1
				}
				if set>>thread&1 == 1 {
					list, k = holds, k-1
				}
				if joins[0][1] {
					list[k]++
				}
			}
			last := len(m.threads) // of the others, there is one less
			if got, e := mesh.Without(m.n, m.threads, thread, true); !slices.Equal(got, holds[:last]) || e != api.OK {
				t.Error(m, thread, got, e, holds)
			}
			if got, e := mesh.Without(m.n, m.threads, thread, false); !slices.Equal(got, not[:last]) || e != api.OK {
				t.Error(m, thread, got, e, not)
			}
		}
		for _, thread := range append([]int{len(m.threads), len(m.threads) + 1}, noNumbers...) {
			if thread < 0 || thread >= len(m.threads) {
				no(noneOf(mesh.Without(m.n, m.threads, thread, true)))
				no(noneOf(mesh.Without(m.n, m.threads, thread, false)))
			}
		}
	}
}
