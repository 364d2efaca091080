package tones_test

import (
	"math"
	"math/rand"
	"reflect"
	"slices"
	"testing"

	"cloche/api"
	"cloche/tones"
)

// wires makes pairs of knots that follow each other.
func wires(ends ...int) []api.Pair {
	var list []api.Pair
	for i := 0; i < len(ends); i += 2 {
		list = append(list, api.Pair{A: ends[i], B: ends[i+1]})
	}
	return list
}

// frameOf is the frame of n knots with these wires.
func frameOf(n int, list []api.Pair) []int {
	frame := make([]int, n)
	for _, wire := range list {
		frame[wire.A] |= 1 << wire.B
		frame[wire.B] |= 1 << wire.A
	}
	return frame
}

// wiresOf returns the wires of a frame.
func wiresOf(frame []int) []api.Pair {
	var list []api.Pair
	for b := range frame {
		for a := range b {
			if frame[a]>>b&1 == 1 {
				list = append(list, api.Pair{A: a, B: b})
			}
		}
	}
	return list
}

func bare(n int) []int { return frameOf(n, nil) }

// row has n knots, each but the last one joined to the next one.
func row(n int) []int {
	var list []api.Pair
	for knot := range n - 1 {
		list = append(list, api.Pair{A: knot, B: knot + 1})
	}
	return frameOf(n, list)
}

// ring is a row with a wire from its last knot to its first one.
func ring(n int) []int { return frameOf(n, append(wiresOf(row(n)), api.Pair{A: n - 1, B: 0})) }

// star has n knots, the first one joined to all others.
func star(n int) []int {
	var list []api.Pair
	for knot := 1; knot < n; knot++ {
		list = append(list, api.Pair{A: 0, B: knot})
	}
	return frameOf(n, list)
}

// full has n knots, all of them joined to each other.
func full(n int) []int {
	frame := make([]int, n)
	for knot := range frame {
		frame[knot] = 1<<n - 1 - 1<<knot
	}
	return frame
}

var (
	wire     = row(2)
	triangle = ring(3)
	square   = []int{10, 5, 10, 5, 0}                                      // a ring of four, and a knot alone
	rings    = frameOf(7, wires(0, 1, 1, 2, 2, 0, 3, 4, 4, 5, 5, 6, 6, 3)) // of three and of four
	glasses  = frameOf(7, wires(0, 1, 1, 2, 2, 0, 3, 4, 4, 5, 5, 3, 2, 6, 6, 3))
	grid     = frameOf(6, wires(0, 1, 1, 2, 3, 4, 4, 5, 0, 3, 1, 4, 2, 5))
)

// named are frames of all sizes and of many forms.
func named() [][]int {
	frames := [][]int{square, rings, glasses, grid}
	for n := 1; n <= 7; n++ {
		frames = append(frames, bare(n), row(n), star(n), full(n))
		if n >= 3 {
			frames = append(frames, ring(n))
		}
	}
	return frames
}

// allFrames returns all frames of n knots.
func allFrames(n int) [][]int {
	list := wiresOf(full(n))
	var frames [][]int
	for set := range 1 << len(list) {
		var some []api.Pair
		for i, wire := range list {
			if set>>i&1 == 1 {
				some = append(some, wire)
			}
		}
		frames = append(frames, frameOf(n, some))
	}
	return frames
}

// randomFrames returns frames of six and seven knots, some with few wires and some with
// many.
func randomFrames(many int, seed int64) [][]int {
	r := rand.New(rand.NewSource(seed))
	var frames [][]int
	for range many {
		n, part := 6+r.Intn(2), 2+r.Intn(8)
		var some []api.Pair
		for _, wire := range wiresOf(full(n)) {
			if r.Intn(10) < part {
				some = append(some, wire)
			}
		}
		frames = append(frames, frameOf(n, some))
	}
	return frames
}

// someFrames are all up to five knots, and many larger ones.
func someFrames(many int, seed int64) [][]int {
	frames := append(named(), randomFrames(many, seed)...)
	for n := 1; n <= 5; n++ {
		frames = append(frames, allFrames(n)...)
	}
	return frames
}

func isZero(v any) bool {
	value := reflect.ValueOf(v)
	return value.IsZero() || value.Kind() == reflect.Slice && value.Len() == 0
}

// refused fails the test if there is not this error, and nothing beside it.
func refused(t *testing.T, want api.Errno) func(v any, e api.Errno) {
	return func(v any, e api.Errno) {
		t.Helper()
		if e != want || !isZero(v) {
			t.Error(v, e, want)
		}
	}
}

// value fails the test where there is an error.
func value[T any](t *testing.T) func(T, api.Errno) T {
	return func(v T, e api.Errno) T {
		t.Helper()
		if e != api.OK {
			t.Fatal(v, e)
		}
		return v
	}
}

func noneOf[T any](v T, e api.Errno) (any, api.Errno) { return v, e }

// two makes one value of two.
func two[T any](a, b T, e api.Errno) (any, api.Errno) { return [2]T{a, b}, e }

var noNumbers = []int{math.MinInt, -1 << 32, -2, -1, 8, 17, 63, 64, 65, 1 << 32, 1<<32 + 1, math.MaxInt}

// noFrames are lists that are no frames.
func noFrames() [][]int {
	lists := [][]int{nil, {}, {1}, {2}, {2, 0}, {0, 1}, {3, 1}, {2, 3}, {1, 2}, {6, 5, 1}, {6, 5, 2}, {6, 5, 7}, {6, 4, 3}, make([]int, 8), make([]int, 100000), ring(8), full(64)}
	for n := 1; n <= 7; n++ {
		for knot := range n {
			for _, number := range []int{math.MinInt, -128, -2, -1, 1 << n, 1<<n + 1, 1 << 32, math.MaxInt, 1 << knot} {
				for _, frame := range [][]int{bare(n), row(n), full(n)} {
					frame[knot] = number
					lists = append(lists, frame)
					other := slices.Clone(frame)
					other[knot] |= full(n)[knot]
					lists = append(lists, other)
				}
			}
		}
	}
	return lists
}

// allRefused fails the test if not all functions with a frame return ErrArg for what is
// none, whatever is asked of it.
func allRefused(t *testing.T, frame []int) {
	t.Helper()
	no := refused(t, api.ErrArg)
	no(noneOf(tones.Tones(frame)))
	no(noneOf(tones.Matchings(frame)))
	no(noneOf(tones.IsTree(frame)))
	for _, number := range append([]int{0, 1}, noNumbers...) {
		no(two(tones.Figures(frame, number)))
		no(noneOf(tones.Walks(frame, number)))
		no(noneOf(tones.Without(frame, number)))
		no(noneOf(tones.Cut(frame, 0, number)))
		no(noneOf(tones.Cut(frame, number, 0)))
	}
	for _, other := range [][]int{frame, nil, {0}, wire, triangle} {
		no(two(tones.Alike(frame, other)))
		no(two(tones.Alike(other, frame)))
	}
}

// The errors of all functions with what is no frame: ErrArg, also where ErrState or
// ErrNone would come later
func TestNoFrames(t *testing.T) {
	for _, list := range noFrames() {
		if tones.IsFrame(list) {
			t.Error(list)
		}
		allRefused(t, list)
	}
}

func TestFrames(t *testing.T) {
	for _, frame := range someFrames(300, 1) {
		if !tones.IsFrame(frame) {
			t.Error(frame)
		}
	}
}

// isFrame is by the words of the chapter.
func isFrame(list []int) bool {
	has := func(set, knot int) bool { return set>>knot&1 == 1 }
	for i, set := range list {
		if set < 0 || set >= 1<<len(list) || has(set, i) {
			return false
		}
		for k := range list {
			if has(set, k) && !has(list[k], i) {
				return false
			}
		}
	}
	return len(list) >= 1 && len(list) <= 7
}

// IsFrame of all lists of up to four small numbers, and of frames in which something is
// changed
func TestIsFrame(t *testing.T) {
	check := func(list []int) {
		if tones.IsFrame(list) != isFrame(list) {
			t.Error(list, isFrame(list))
		}
	}
	for n := 1; n <= 4; n++ {
		numbers := 1<<n + 2 // from -1 on
		many := 1
		for range n {
			many *= numbers
		}
		for code := range many {
			var list []int
			for range n {
				list = append(list, code%numbers-1)
				code /= numbers
			}
			check(list)
		}
	}
	r := rand.New(rand.NewSource(2))
	for _, frame := range randomFrames(2000, 3) {
		list := slices.Clone(frame)
		a, b := r.Intn(len(list)), r.Intn(len(list))
		list[a] ^= 1 << b
		check(list)
		list[b] ^= 1 << a
		check(list)
		check(append(list, 0))
		check(list[:len(list)-1])
	}
}
