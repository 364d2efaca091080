package tones_test

import (
	"math/rand"
	"slices"
	"testing"

	"cloche/api"
	"cloche/tones"
)

// P8.7 (Sachs)
func TestSachs(t *testing.T) {
	for _, frame := range someFrames(300, 70) {
		p := value[[]int](t)(tones.Tones(frame))
		for k := range len(frame) + 1 {
			if sum, _, e := tones.Figures(frame, k); sum != p[len(frame)-k] || e != api.OK {
				t.Error(frame, k, sum, e, p)
			}
		}
	}
}

// P8.8 (walks)
func TestWalksOfTones(t *testing.T) {
	number := value[int](t)
	for _, frame := range someFrames(300, 71) {
		n, p := len(frame), value[[]int](t)(tones.Tones(frame))
		for k := 1; k <= n; k++ {
			sum := number(tones.Walks(frame, k)) + k*p[n-k]
			for i := 1; i < k; i++ {
				sum += p[n-i] * number(tones.Walks(frame, k-i))
			}
			if sum != 0 {
				t.Error(frame, k, sum)
			}
		}
	}
}

// P8.9 (trees)
func TestTreesAlike(t *testing.T) {
	list := value[[]int](t)
	trees, others := 0, 0
	for _, frame := range someFrames(1000, 72) {
		same := slices.Equal(list(tones.Tones(frame)), list(tones.Matchings(frame)))
		if isTree := value[bool](t)(tones.IsTree(frame)); isTree && !same || hasNoRing(frame) && !same {
			t.Error(frame, isTree)
		} else if isTree {
			trees++
		}
		if !same {
			others++
		}
	}
	if trees == 0 || others == 0 {
		t.Error(trees, others)
	}
}

// less returns a polynomial, the numbers of another one taken from its own.
func less(p, q []int) []int {
	numbers := make([]int, max(len(p), len(q)))
	copy(numbers, p)
	for k, number := range q {
		numbers[k] -= number
	}
	return numbers
}

// matchingsLess returns the Matchings of a frame without some knots, the greatest one
// first; 1 if none is left.
func matchingsLess(t *testing.T, frame []int, knots ...int) []int {
	t.Helper()
	list := value[[]int](t)
	for _, knot := range knots {
		if len(frame) == 1 {
			return []int{1}
		}
		frame = list(tones.Without(frame, knot))
	}
	return list(tones.Matchings(frame))
}

// P8.10 (one wire, one knot less)
func TestOneLess(t *testing.T) {
	list := value[[]int](t)
	for _, frame := range someFrames(150, 73) {
		all := list(tones.Matchings(frame))
		for _, wire := range wiresOf(frame) {
			cut := list(tones.Matchings(list(tones.Cut(frame, wire.A, wire.B))))
			if got := less(cut, matchingsLess(t, frame, wire.B, wire.A)); !slices.Equal(got, all) {
				t.Error(frame, wire, got, all)
			}
		}
		for knot := range frame {
			sum := append([]int{0}, matchingsLess(t, frame, knot)...)
			for other := range frame {
				if frame[knot]>>other&1 == 1 {
					sum = less(sum, matchingsLess(t, frame, max(knot, other), min(knot, other)))
				}
			}
			if !slices.Equal(sum, all) {
				t.Error(frame, knot, sum, all)
			}
		}
	}
}

// P8.11 (Heilmann and Lieb)
func TestRealZeros(t *testing.T) {
	list := value[[]int](t)
	for _, frame := range someFrames(300, 74) {
		n := len(frame)
		for _, p := range [][]int{list(tones.Tones(frame)), list(tones.Matchings(frame))} {
			want := n - (len(fractionsOf(p).common()) - 1)
			if got, e := tones.Zeros(p, -n, n-1); got != want || e != api.OK {
				t.Error(frame, p, got, e, want)
			}
		}
	}
}

// renumbered returns a frame in which the knot i is what order[i] was.
func renumbered(frame, order []int) []int {
	new := make([]int, len(frame))
	for i, was := range order {
		for k, other := range order {
			new[i] |= frame[was] >> other & 1 << k
		}
	}
	return new
}

// P8.12 (alike)
func TestRenumbered(t *testing.T) {
	r := rand.New(rand.NewSource(75))
	for _, frame := range someFrames(300, 76) {
		for range 3 {
			other := renumbered(frame, r.Perm(len(frame)))
			if x, y, e := tones.Alike(frame, other); !x || !y || e != api.OK {
				t.Error(frame, other, x, y, e)
			}
		}
	}
	if x, y, e := tones.Alike(star(5), square); !x || y || e != api.OK {
		t.Error(x, y, e)
	}
}
