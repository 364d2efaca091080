package mesh_test

import (
	"math"
	"math/bits"
	"math/rand"
	"reflect"
	"testing"

	"cloche/api"
	"cloche/mesh"
)

// net is a mesh: its knots and its threads.
type net struct {
	n       int
	threads []api.Pair
}

// threads makes pairs of numbers that follow each other.
func threads(ends ...int) []api.Pair {
	var list []api.Pair
	for i := 0; i < len(ends); i += 2 {
		list = append(list, api.Pair{A: ends[i], B: ends[i+1]})
	}
	return list
}

var (
	twice  = net{2, threads(0, 1, 0, 1)}
	ring   = net{4, threads(0, 2, 2, 1, 1, 3, 3, 0)}
	bridge = net{4, threads(0, 2, 2, 1, 0, 3, 3, 1, 2, 3)}
	apart  = net{5, threads(0, 2, 2, 0, 1, 3)}
	line   = net{8, threads(0, 7, 7, 6, 6, 5, 5, 4, 4, 3, 3, 2, 2, 1)}
	cube   = net{8, threads(0, 1, 1, 2, 2, 3, 3, 0, 4, 5, 5, 6, 6, 7, 7, 4, 0, 4, 1, 5, 2, 6, 3, 7)}
)

var named = []net{{2, nil}, {8, nil}, {2, threads(1, 0)}, twice, ring, bridge, apart, line, cube, bundle(13)}

// bundle is a mesh with many threads between two knots.
func bundle(many int) net {
	m := net{n: 2}
	for i := range many {
		m.threads = append(m.threads, api.Pair{A: i % 2, B: 1 - i%2})
	}
	return m
}

// allNets returns all meshes of n knots with up to most threads.
func allNets(n, most int) []net {
	nets, last := []net{{n: n}}, []net{{n: n}}
	for range most {
		var more []net
		for _, m := range last {
			for code := range n * n {
				if a, b := code/n, code%n; a != b {
					list := append(threads(), m.threads...)
					more = append(more, net{n, append(list, api.Pair{A: a, B: b})})
				}
			}
		}
		nets, last = append(nets, more...), more
	}
	return nets
}

// randomNets returns meshes with up to most threads; many of the larger ones are
// joined in many ways.
func randomNets(many, most int, seed int64) []net {
	r := rand.New(rand.NewSource(seed))
	var nets []net
	for range many {
		m := net{n: 2 + r.Intn(7)}
		if r.Intn(2) == 0 {
			m.n = 2 + r.Intn(4)
		}
		for range r.Intn(most + 1) {
			a := r.Intn(m.n)
			m.threads = append(m.threads, api.Pair{A: a, B: (a + 1 + r.Intn(m.n-1)) % m.n})
		}
		nets = append(nets, m)
	}
	return nets
}

// table tells of any two knots whether they are joined.
type table [8][8]bool

// tableOf joins the knots of a set, each by each, by the words of the chapter.
func tableOf(m net, set int) table {
	var joins table
	for knot := range m.n {
		joins[knot][knot] = true
	}
	for i, thread := range m.threads {
		if set>>i&1 == 1 {
			joins[thread.A][thread.B], joins[thread.B][thread.A] = true, true
		}
	}
	for by := range m.n {
		for a := range m.n {
			for b := range m.n {
				joins[a][b] = joins[a][b] || joins[a][by] && joins[by][b]
			}
		}
	}
	return joins
}

// tablesOf returns the tables of all sets.
func tablesOf(m net) []table {
	tables := make([]table, 1<<len(m.threads))
	for set := range tables {
		tables[set] = tableOf(m, set)
	}
	return tables
}

// counted returns how many sets of each size have a property.
func counted(threads int, has func(set int) bool) []int {
	list := make([]int, threads+1)
	for set := range 1 << threads {
		if has(set) {
			list[bits.OnesCount(uint(set))]++
		}
	}
	return list
}

// choose is the number of ways to choose k of n, by the triangle.
func choose(n, k int) int {
	if k < 0 || k > n {
		return 0
	}
	if n == 0 {
		return 1
	}
	return choose(n-1, k-1) + choose(n-1, k)
}

func isZero(v any) bool {
	value := reflect.ValueOf(v)
	return value.IsZero() || value.Kind() == reflect.Slice && value.Len() == 0
}

// refused fails the test if there is not this error, and nothing beside it.
func refused(t *testing.T, want api.Errno) func(v any, e api.Errno) {
	return func(v any, e api.Errno) {
		t.Helper()
		if e != want || !isZero(v) {
			t.Error(v, e, want)
		}
	}
}

// value fails the test where there is an error.
func value[T any](t *testing.T) func(T, api.Errno) T {
	return func(v T, e api.Errno) T {
		t.Helper()
		if e != api.OK {
			t.Fatal(v, e)
		}
		return v
	}
}

func noneOf[T any](v T, e api.Errno) (any, api.Errno) { return v, e }

// two makes one value of two numbers.
func two(a, b int, e api.Errno) (any, api.Errno) { return [2]int{a, b}, e }

// allRefused fails the test if not all functions with a mesh return an error with
// these arguments.
func allRefused(t *testing.T, want api.Errno, m net, set, thread int, a, b int) {
	t.Helper()
	no := refused(t, want)
	no(noneOf(mesh.Joined(m.n, m.threads, set, a, b)))
	no(noneOf(mesh.Count(m.n, m.threads, a, b)))
	no(noneOf(mesh.Both(m.n, m.threads, a, b, a, b)))
	no(noneOf(mesh.Apart(m.n, m.threads, a, b, a, b)))
	no(noneOf(mesh.Vital(m.n, m.threads, a, b)))
	no(two(mesh.Steps(m.n, m.threads, a, b)))
	no(noneOf(mesh.Whole(m.n, m.threads)))
	no(noneOf(mesh.Without(m.n, m.threads, thread, true)))
	no(noneOf(mesh.Without(m.n, m.threads, thread, false)))
}

var noNumbers = []int{math.MinInt, -1 << 32, -2, -1, 9, 14, 64, 1 << 32, 1<<32 + 1, math.MaxInt}

// The errors of all functions with what is no mesh: the number of knots comes first,
// then that of the threads, then what they join, and then all else.
func TestNoMeshes(t *testing.T) {
	long := make([]api.Pair, 14)
	for _, n := range append([]int{0, 1}, noNumbers...) {
		for _, list := range [][]api.Pair{nil, threads(0, 1), threads(0, 0), threads(0, -1), long, make([]api.Pair, 100000)} {
			allRefused(t, api.ErrArg, net{n, list}, 0, 0, 0, 1)
			allRefused(t, api.ErrArg, net{n, list}, -1, -1, 0, 0)
			allRefused(t, api.ErrArg, net{n, list}, 0, 0, 8, -1)
		}
	}
	for n := 2; n <= 8; n++ {
		for _, list := range [][]api.Pair{long, bundle(14).threads, bundle(15).threads, bundle(64).threads, make([]api.Pair, 100000)} {
			allRefused(t, api.ErrLimit, net{n, list}, 0, 0, 0, 1)
			allRefused(t, api.ErrLimit, net{n, list}, -1, -1, 0, 0)
			allRefused(t, api.ErrLimit, net{n, list}, 0, 0, n, -1)
		}
		for _, other := range append([]int{0, n}, noNumbers...) {
			for _, pair := range threads(0, other, other, 0, other, other) {
				if pair.A == 0 && pair.B == 0 || other != 0 {
					allRefused(t, api.ErrArg, net{n, []api.Pair{pair}}, 0, 0, 0, 1)
					allRefused(t, api.ErrArg, net{n, append(bundle(12).threads, pair)}, 0, 0, 0, 1)
					allRefused(t, api.ErrArg, net{n, append([]api.Pair{pair}, bundle(12).threads...)}, 0, 0, 0, 0)
				}
			}
		}
		allRefused(t, api.ErrArg, net{n, threads(0, 1, n-1, n-1)}, 0, 0, 0, 1)
	}
}

// The errors of all functions with what is no knot, in any place: ErrArg, also where
// ErrPlan would come later
func TestNoKnots(t *testing.T) {
	no := refused(t, api.ErrArg)
	for _, m := range named {
		for _, knot := range append([]int{m.n, m.n + 1}, noNumbers...) {
			for _, ends := range threads(0, knot, knot, 0, knot, knot, m.n-1, knot) {
				a, b := ends.A, ends.B
				no(noneOf(mesh.Joined(m.n, m.threads, 0, a, b)))
				no(noneOf(mesh.Joined(m.n, m.threads, -1, a, b)))
				no(noneOf(mesh.Count(m.n, m.threads, a, b)))
				no(noneOf(mesh.Both(m.n, m.threads, a, b, 0, 1)))
				no(noneOf(mesh.Both(m.n, m.threads, 0, 1, a, b)))
				no(noneOf(mesh.Apart(m.n, m.threads, a, b, 0, 1)))
				no(noneOf(mesh.Apart(m.n, m.threads, 0, 1, a, b)))
				no(noneOf(mesh.Vital(m.n, m.threads, a, b)))
				no(two(mesh.Steps(m.n, m.threads, a, b)))
			}
		}
	}
}
