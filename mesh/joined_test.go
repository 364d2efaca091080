package mesh_test

import (
	"slices"
	"testing"

	"cloche/api"
	"cloche/mesh"
)

// P7.1: knots that are plainly joined, or not
func TestPlainJoined(t *testing.T) {
	for _, c := range []struct {
		m         net
		set, a, b int
		want      bool
	}{
		{net{2, nil}, 0, 0, 0, true},
		{net{2, nil}, 0, 0, 1, false},
		{twice, 0, 0, 1, false},
		{twice, 1, 0, 1, true},
		{twice, 2, 1, 0, true},
		{twice, 3, 1, 0, true},
		{ring, 3, 0, 1, true},
		{ring, 5, 0, 1, false},
		{ring, 6, 2, 3, true},
		{ring, 6, 0, 3, false},
		{ring, 6, 0, 0, true},
		{apart, 7, 0, 1, false},
		{apart, 7, 1, 3, true},
		{apart, 7, 4, 3, false},
		{line, 127, 0, 1, true},
		{line, 127, 1, 0, true},
		{line, 119, 0, 1, false},
		{line, 126, 7, 1, true},
		{line, 126, 0, 7, false},
		{cube, 1<<12 - 1, 0, 6, true},
		{cube, 1<<8 - 1, 0, 6, false},
		{bundle(13), 1 << 12, 0, 1, true},
	} {
		if got, e := mesh.Joined(c.m.n, c.m.threads, c.set, c.a, c.b); got != c.want || e != api.OK {
			t.Error(c, got, e)
		}
	}
}

// P7.1: Joined and Count by the words of the chapter
func TestJoined(t *testing.T) {
	nets := slices.Concat(named, allNets(2, 3), allNets(3, 3), randomNets(60, 9, 1), randomNets(6, 13, 2))
	for _, m := range nets {
		tables := tablesOf(m)
		for a := range m.n {
			for b := range m.n {
				for set, joins := range tables {
					if got, e := mesh.Joined(m.n, m.threads, set, a, b); got != joins[a][b] || e != api.OK {
						t.Error(m, set, a, b, got, e)
					}
				}
				want := counted(len(m.threads), func(set int) bool { return tables[set][a][b] })
				if got, e := mesh.Count(m.n, m.threads, a, b); !slices.Equal(got, want) || e != api.OK {
					t.Error(m, a, b, got, e, want)
				}
			}
		}
	}
}

// P7.1: sets that there are not
func TestNoSets(t *testing.T) {
	no := refused(t, api.ErrArg)
	for _, m := range append(named, allNets(3, 2)...) {
		sets := 1 << len(m.threads)
		for _, set := range []int{sets, sets + 1, 2 * sets, 1 << 13, 1<<32 + sets - 1} {
			no(noneOf(mesh.Joined(m.n, m.threads, set, 0, 1)))
			no(noneOf(mesh.Joined(m.n, m.threads, set, 1, 1)))
		}
		for _, set := range noNumbers {
			if set < 0 || set > sets {
				no(noneOf(mesh.Joined(m.n, m.threads, set, 0, 1)))
			}
		}
	}
}

// P7.1: counts that are plain
func TestPlainCount(t *testing.T) {
	for _, c := range []struct {
		m    net
		a, b int
		want []int
	}{
		{net{2, nil}, 0, 1, []int{0}},
		{net{2, nil}, 1, 1, []int{1}},
		{twice, 0, 1, []int{0, 2, 1}},
		{twice, 0, 0, []int{1, 2, 1}},
		{ring, 0, 1, []int{0, 0, 2, 4, 1}},
		{ring, 0, 2, []int{0, 1, 3, 4, 1}},
		{bridge, 0, 1, []int{0, 0, 2, 8, 5, 1}},
		{apart, 0, 1, []int{0, 0, 0, 0}},
		{apart, 2, 0, []int{0, 2, 3, 1}},
		{line, 0, 1, []int{0, 0, 0, 0, 0, 0, 0, 1}},
		{line, 0, 7, []int{0, 1, 6, 15, 20, 15, 6, 1}},
		{bundle(13), 1, 0, []int{0, 13, 78, 286, 715, 1287, 1716, 1716, 1287, 715, 286, 78, 13, 1}},
	} {
		if got, e := mesh.Count(c.m.n, c.m.threads, c.a, c.b); !slices.Equal(got, c.want) || e != api.OK {
			t.Error(c, got, e)
		}
	}
}
