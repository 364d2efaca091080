package discs_test

import (
	"math"
	"math/big"
	"math/rand"
	"slices"
	"testing"

	"cloche/api"
	"cloche/discs"
)

var small = api.Quad{-1, 2, 2, 3}

var noQuads = []api.Quad{
	{}, {1, 2, 3, 4}, {1, -2, -2, -3}, {-1, 2, 2, 4}, {0, 0, 1, 2}, {0, 0, -1, -1}, {0, 0, 0, 1},
	{0, 0, 0, 1 << 32}, // an equation modulo 2^64 would hold
	{0, 0, 0, 1 << 40}, {0, 0, api.MaxBend + 1, api.MaxBend + 1},
	{math.MinInt, 2, 2, 3}, {2, 2, 3, math.MinInt}, {math.MaxInt, 0, 0, math.MaxInt},
	{math.MinInt, math.MinInt, 1, 1}, // an equation modulo 2^128 would hold
	{math.MinInt, math.MinInt, math.MinInt, math.MinInt}, {math.MaxInt, math.MaxInt, math.MaxInt, math.MaxInt},
}

// isQuad is the chapter's definition, with numbers of any length.
func isQuad(q api.Quad) bool {
	sum, squares := new(big.Int), new(big.Int)
	for _, bend := range q {
		if bend < -api.MaxBend || bend > api.MaxBend {
			return false
		}
		b := big.NewInt(int64(bend))
		sum.Add(sum, b)
		squares.Add(squares, new(big.Int).Mul(b, b))
	}
	squares.Lsh(squares, 1)
	return sum.Sign() > 0 && squares.Cmp(new(big.Int).Mul(sum, sum)) == 0
}

func isRoot(q api.Quad) bool {
	return isQuad(q) && q[0] <= q[1] && q[1] <= q[2] && q[2] <= q[3] && q[0] <= 0 && q[0]+q[1]+q[2] >= q[3]
}

// someQuads are roots, multiples of roots, and what comes of them by turns, in
// mixed order; with a seed of its own, so that they are always the same.
func someQuads(t *testing.T) []api.Quad {
	r := rand.New(rand.NewSource(1))
	list := []api.Quad{{0, 0, 1, 1}, {0, 0, 5, 5}, {0, 0, api.MaxBend, api.MaxBend}, {0, 1, 4, 9}}
	for n := 1; n <= 12; n++ {
		roots, e := discs.Roots(n)
		if e != api.OK {
			t.Fatal(n, e)
		}
		list = append(list, roots...)
	}
	for _, q := range slices.Clone(list[4:]) {
		times := 1 + r.Intn(1000)
		list = append(list, api.Quad{times * q[0], times * q[1], times * q[2], times * q[3]})
	}
	for _, q := range slices.Clone(list) {
		for steps := range 30 {
			next, e := discs.Turn(q, r.Intn(4))
			if e == api.ErrRange {
				break
			}
			if e != api.OK {
				t.Fatal(q, e)
			}
			q = next
			if steps%5 == 0 {
				r.Shuffle(4, func(i, j int) { q[i], q[j] = q[j], q[i] })
				list = append(list, q)
			}
		}
		list = append(list, q)
	}
	return list
}

// P1.1
func TestIsQuadAndIsRoot(t *testing.T) {
	for _, c := range []struct {
		q        api.Quad
		is, root bool
	}{
		{small, true, true},
		{api.Quad{-2, 3, 6, 7}, true, true},
		{api.Quad{0, 0, 1, 1}, true, true},
		{api.Quad{0, 0, api.MaxBend, api.MaxBend}, true, true},
		{api.Quad{15, 2, 2, 3}, true, false},
		{api.Quad{2, 2, 3, 15}, true, false},
		{api.Quad{0, 1, 1, 4}, true, false},
		{api.Quad{-1, 2, 3, 6}, true, false},
		{api.Quad{2, -1, 2, 3}, true, false},
		{api.Quad{-1, 2, 3, 2}, true, false},
		{api.Quad{0, 1, 0, 1}, true, false},
	} {
		if discs.IsQuad(c.q) != c.is || discs.IsRoot(c.q) != c.root {
			t.Error(c, discs.IsQuad(c.q), discs.IsRoot(c.q))
		}
	}
	for _, q := range noQuads {
		if discs.IsQuad(q) || discs.IsRoot(q) {
			t.Error(q)
		}
	}
	for _, q := range someQuads(t) {
		if !isQuad(q) || !discs.IsQuad(q) || discs.IsRoot(q) != isRoot(q) {
			t.Error(q, discs.IsQuad(q), discs.IsRoot(q))
		}
		for i := range q { // close by, and with the signs changed, there is none
			near, less := q, api.Quad{-q[0], -q[1], -q[2], -q[3]}
			near[i]++
			if discs.IsQuad(near) != isQuad(near) || discs.IsQuad(less) {
				t.Error(near, less)
			}
		}
	}
}

// P1.1, for all small numbers
func TestIsQuadOfSmallNumbers(t *testing.T) {
	const least, most = -6, 12
	for a := least; a <= most; a++ {
		for b := least; b <= most; b++ {
			for c := least; c <= most; c++ {
				for d := least; d <= most; d++ {
					q := api.Quad{a, b, c, d}
					if discs.IsQuad(q) != isQuad(q) || discs.IsRoot(q) != isRoot(q) {
						t.Fatal(q, discs.IsQuad(q), discs.IsRoot(q))
					}
				}
			}
		}
	}
}

// P1.2
func TestTurn(t *testing.T) {
	for i, want := range []api.Quad{{15, 2, 2, 3}, {-1, 6, 2, 3}, {-1, 2, 6, 3}, small} {
		if q, e := discs.Turn(small, i); q != want || e != api.OK {
			t.Error(i, q, e)
		}
	}
	for _, i := range []int{-1, 4, math.MinInt, math.MaxInt} {
		if q, e := discs.Turn(small, i); q != (api.Quad{}) || e != api.ErrArg {
			t.Error(i, q, e)
		}
	}
	for _, q := range noQuads {
		for _, i := range []int{-1, 0, 3, 4} {
			if q, e := discs.Turn(q, i); q != (api.Quad{}) || e != api.ErrArg {
				t.Error(q, i, e)
			}
		}
	}
	const k = 1 << 20
	edge := api.Quad{0, 1, (k - 2) * (k - 2), (k - 1) * (k - 1)}
	last := api.Quad{0, 1, k * k, (k - 1) * (k - 1)}
	if q, e := discs.Turn(edge, 2); q != last || e != api.OK {
		t.Error(q, e)
	}
	for i, want := range []api.Errno{api.ErrRange, api.ErrRange, api.OK, api.ErrRange} {
		if q, e := discs.Turn(last, i); e != want || e != api.OK && q != (api.Quad{}) {
			t.Error(i, q, e)
		}
	}
}

// P1.2
func TestTurns(t *testing.T) {
	end := api.Quad{0, 0, api.MaxBend, api.MaxBend}
	for _, c := range []struct {
		q    api.Quad
		list []int
		want api.Quad
		e    api.Errno
	}{
		{small, nil, small, api.OK},
		{small, []int{}, small, api.OK},
		{small, []int{0, 1, 2, 3, 0}, api.Quad{927, 38, 110, 323}, api.OK},
		{small, []int{0, 0}, small, api.OK},
		{small, make([]int, api.MaxTurns), small, api.OK},
		{small, make([]int, api.MaxTurns+1), api.Quad{}, api.ErrLimit},
		{small, slices.Repeat([]int{9}, api.MaxTurns+1), api.Quad{}, api.ErrLimit},
		{small, slices.Repeat([]int{0, 1}, api.MaxTurns/2), api.Quad{17879, 18482, 2, 3}, api.OK},
		{small, slices.Repeat([]int{0, 1, 2, 3}, api.MaxTurns/4), api.Quad{}, api.ErrRange},
		{small, []int{0, 4, 1}, api.Quad{}, api.ErrArg},
		{small, []int{0, -1}, api.Quad{}, api.ErrArg},
		{end, []int{2, 3}, end, api.OK},
		{end, []int{2, 0, 9}, api.Quad{}, api.ErrRange},
		{end, []int{2, 9, 0}, api.Quad{}, api.ErrArg},
		{end, []int{0, 0}, api.Quad{}, api.ErrRange}, // also if it would come back
		{api.Quad{1, 2, 3, 4}, nil, api.Quad{}, api.ErrArg},
		{api.Quad{1, 2, 3, 4}, make([]int, api.MaxTurns+1), api.Quad{}, api.ErrArg},
	} {
		list := slices.Clone(c.list)
		if q, e := discs.Turns(c.q, list); q != c.want || e != c.e {
			t.Error(c, q, e)
		}
		if !slices.Equal(list, c.list) {
			t.Error("changed:", list, c.list)
		}
	}
	r := rand.New(rand.NewSource(2))
	for _, q := range someQuads(t) {
		list := make([]int, r.Intn(12))
		want, errno := q, api.OK
		for i := range list {
			list[i] = r.Intn(4)
		}
		for _, i := range list {
			if want, errno = discs.Turn(want, i); errno != api.OK {
				break
			}
		}
		if got, e := discs.Turns(q, list); got != want || e != errno {
			t.Error(q, list, got, e)
		}
	}
}

// rootByTurns does what P1.3 says, one Turn after the other.
func rootByTurns(t *testing.T, q api.Quad) (api.Quad, int) {
	for turns := 0; ; turns++ {
		greatest := slices.Max(q[:])
		at := 3
		for q[at] != greatest {
			at--
		}
		next, e := discs.Turn(q, at)
		if e != api.OK && e != api.ErrRange {
			t.Fatal(q, e)
		}
		if e == api.ErrRange || next[at] >= greatest {
			slices.Sort(q[:])
			return q, turns
		}
		q = next
	}
}

// P1.3
func TestRoot(t *testing.T) {
	const k = 1 << 20
	for _, c := range []struct {
		q, root api.Quad
		turns   int
	}{
		{small, small, 0},
		{api.Quad{3, 2, -1, 2}, small, 0},
		{api.Quad{15, 2, 2, 3}, small, 1},
		{api.Quad{15, 38, 2, 3}, small, 2},
		{api.Quad{927, 38, 110, 323}, small, 5},
		{api.Quad{0, 1, 4, 9}, api.Quad{0, 0, 1, 1}, 2},
		{api.Quad{0, 0, 7, 7}, api.Quad{0, 0, 7, 7}, 0},
		{api.Quad{1, (k - 1) * (k - 1), 0, k * k}, api.Quad{0, 0, 1, 1}, k - 1},
	} {
		if root, turns, e := discs.Root(c.q); root != c.root || turns != c.turns || e != api.OK {
			t.Error(c, root, turns, e)
		}
	}
	for _, q := range someQuads(t) {
		want, count := rootByTurns(t, q)
		if root, turns, e := discs.Root(q); root != want || turns != count || e != api.OK {
			t.Error(q, root, turns, e, want, count)
		}
	}
	for _, q := range noQuads {
		if root, turns, e := discs.Root(q); root != (api.Quad{}) || turns != 0 || e != api.ErrArg {
			t.Error(q, root, turns, e)
		}
	}
}

// P1.8
func TestSame(t *testing.T) {
	for _, c := range []struct {
		a, b api.Quad
		same bool
		e    api.Errno
	}{
		{small, small, true, api.OK},
		{api.Quad{15, 38, 2, 3}, api.Quad{2, 3, 2, -1}, true, api.OK},
		{api.Quad{0, 1, 4, 9}, api.Quad{1, 0, 1, 0}, true, api.OK},
		{small, api.Quad{-2, 3, 6, 7}, false, api.OK},
		{api.Quad{-2, 4, 4, 6}, api.Quad{-2, 3, 6, 7}, false, api.OK},
		{small, api.Quad{-2, 4, 4, 6}, false, api.OK},
		{api.Quad{1, 2, 3, 4}, small, false, api.ErrArg},
		{small, api.Quad{1, 2, 3, 4}, false, api.ErrArg},
		{api.Quad{}, api.Quad{}, false, api.ErrArg},
	} {
		if same, e := discs.Same(c.a, c.b); same != c.same || e != c.e {
			t.Error(c, same, e)
		}
	}
}

// P1.9
func TestSoddy(t *testing.T) {
	for _, q := range someQuads(t) {
		for i := range q {
			turned, e := discs.Turn(q, i)
			if e == api.ErrRange {
				continue
			}
			back, errno := discs.Turn(turned, i)
			if e != api.OK || !discs.IsQuad(turned) || back != q || errno != api.OK {
				t.Error(q, i, turned, e, back, errno)
			}
		}
	}
}

// P1.10
func TestRootsAreKept(t *testing.T) {
	for _, q := range someQuads(t) {
		root, _, e := discs.Root(q)
		if e != api.OK || !discs.IsRoot(root) {
			t.Error(q, root, e)
		}
		if again, turns, _ := discs.Root(root); again != root || turns != 0 {
			t.Error(root, again, turns)
		}
		for i := range q {
			turned, e := discs.Turn(q, i)
			if e != api.OK {
				continue
			}
			if r, _, _ := discs.Root(turned); r != root {
				t.Error(q, i, r, root)
			}
			if same, e := discs.Same(q, turned); !same || e != api.OK {
				t.Error(q, turned, same, e)
			}
		}
	}
}
