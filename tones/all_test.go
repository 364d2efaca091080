package tones_test

import (
	"math"
	"math/rand"
	"reflect"
	"slices"
	"sync"
	"testing"

	"cloche/api"
	"cloche/tones"
)

// question is all that the package can be asked of.
type question struct {
	frame, other, polynomial []int
	knots, steps, low, high  int
	a, b                     int
}

// outcome is all that the package says of a question.
type outcome struct {
	is, tree         bool
	alike            [2]bool
	lists            [4][]int
	sum, many, walks int
	zeros, value     int
	errors           [10]api.Errno
}

func outcomeOf(q question) outcome {
	var o outcome
	o.is = tones.IsFrame(q.frame)
	o.lists[0], o.errors[0] = tones.Tones(q.frame)
	o.lists[1], o.errors[1] = tones.Matchings(q.frame)
	o.lists[2], o.errors[2] = tones.Without(q.frame, q.a)
	o.lists[3], o.errors[3] = tones.Cut(q.frame, q.a, q.b)
	o.sum, o.many, o.errors[4] = tones.Figures(q.frame, q.knots)
	o.walks, o.errors[5] = tones.Walks(q.frame, q.steps)
	o.zeros, o.errors[6] = tones.Zeros(q.polynomial, q.low, q.high)
	o.value, o.errors[7] = tones.Value(q.polynomial, q.low)
	o.tree, o.errors[8] = tones.IsTree(q.frame)
	o.alike[0], o.alike[1], o.errors[9] = tones.Alike(q.frame, q.other)
	return o
}

func copyOf(q question) question {
	q.frame, q.other, q.polynomial = slices.Clone(q.frame), slices.Clone(q.other), slices.Clone(q.polynomial)
	return q
}

// questions are of frames, polynomials and numbers, and of others that are none; where
// one is spoiled, the rest is mostly as it should be.
func questions() []question {
	numbers := []int{math.MinInt, -10001, -101, -2, -1, 0, 1, 2, 3, 7, 8, 16, 17, 100, 101, 127, 128, 10001, 1 << 32, math.MaxInt}
	r := rand.New(rand.NewSource(80))
	number := func() int { return numbers[r.Intn(len(numbers))] }
	frames, polynomials := append(named(), randomFrames(400, 81)...), randomPolynomials(100, 82)
	var list []question
	for _, frame := range frames {
		n := len(frame)
		q := copyOf(question{frame: frame, other: frames[r.Intn(len(frames))], polynomial: polynomials[r.Intn(len(polynomials))]})
		q.knots, q.steps, q.low, q.high = r.Intn(n+1), r.Intn(17), -r.Intn(101), r.Intn(101)
		q.a, q.b = r.Intn(n), r.Intn(n)
		switch r.Intn(9) {
		case 0:
			q.frame[r.Intn(n)] = number()
		case 1:
			q.other[r.Intn(len(q.other))] = number()
		case 2:
			q.polynomial[r.Intn(len(q.polynomial))] = number()
		case 3:
			q.knots, q.steps = number(), number()
		case 4:
			q.low, q.high = number(), number()
		case 5:
			q.a, q.b = number(), number()
		case 6:
			q.frame, q.polynomial = make([]int, 6+r.Intn(3)), make([]int, r.Intn(10))
		}
		list = append(list, q)
	}
	return append(list, question{}, question{frame: make([]int, 100000), polynomial: make([]int, 100000)})
}

// P1 and P2 of the document: all calls end without a panic, for all arguments,
// change none of them, and say the same again, alone or beside others.
func TestAllArguments(t *testing.T) {
	list := questions()
	first := make([]outcome, len(list))
	for k, q := range list {
		before := copyOf(q)
		first[k] = outcomeOf(q)
		if !reflect.DeepEqual(before, q) {
			t.Error("changed:", before, q)
		}
	}
	var group sync.WaitGroup
	for worker := range 4 {
		group.Go(func() {
			for step := range list {
				k := (step*7 + worker) % len(list)
				if got := outcomeOf(list[k]); !reflect.DeepEqual(got, first[k]) {
					t.Error(list[k], got, first[k])
				}
			}
		})
	}
	group.Wait()
}

// P1 of the document: numbers of all sizes, in all places
func TestAllNumbers(t *testing.T) {
	numbers := []int{math.MinInt, math.MinInt + 1, -1 << 32, -1, 0, 1, 2, 7, 8, 64, 1 << 32, math.MaxInt - 1, math.MaxInt}
	for _, a := range numbers {
		for _, b := range numbers {
			for _, c := range numbers {
				for _, frame := range [][]int{glasses, {a, b, c}} {
					q := question{frame: frame, other: []int{a, b}, polynomial: []int{a, b, c}, knots: a, steps: b, low: a, high: b, a: b, b: c}
					if got, again := outcomeOf(q), outcomeOf(q); !reflect.DeepEqual(got, again) {
						t.Error(q, got, again)
					}
				}
			}
		}
	}
}

// spoil changes a list and what may lie behind it.
func spoil(list []int) {
	whole := list[:cap(list)]
	for i := range whole {
		whole[i] = -7
	}
}

// Rule 4 of the document: what is done to a result shows in no argument, in no
// other result, and in no later call.
func TestNewMemory(t *testing.T) {
	for _, q := range questions() {
		before, want, got := copyOf(q), outcomeOf(q), outcomeOf(q)
		for k, list := range got.lists {
			spoil(list)
			for other := k + 1; other < len(want.lists); other++ {
				if !slices.Equal(got.lists[other], want.lists[other]) {
					t.Error(q, k, other)
				}
			}
		}
		if again := outcomeOf(q); !reflect.DeepEqual(before, q) || !reflect.DeepEqual(again, want) {
			t.Error(before, q, again, want)
		}
	}
}
