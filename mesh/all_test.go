package mesh_test

import (
	"math"
	"math/rand"
	"reflect"
	"slices"
	"sync"
	"testing"

	"cloche/api"
	"cloche/mesh"
)

// question is all that the package can be asked of.
type question struct {
	m                 net
	knots             [4]int
	set, thread, size int
	holds             bool
	count             []int
	p                 api.Ratio
}

// outcome is all that the package says of a question.
type outcome struct {
	joined          bool
	lists           [7][]int
	chance          api.Ratio
	few, cut, knots int
	board           []api.Pair
	errors          [11]api.Errno
}

func outcomeOf(q question) outcome {
	var o outcome
	n, list := q.m.n, q.m.threads
	a, b, c, d := q.knots[0], q.knots[1], q.knots[2], q.knots[3]
	o.joined, o.errors[0] = mesh.Joined(n, list, q.set, a, b)
	o.lists[0], o.errors[1] = mesh.Count(n, list, a, b)
	o.lists[1], o.errors[2] = mesh.Both(n, list, a, b, c, d)
	o.lists[2], o.errors[3] = mesh.Apart(n, list, a, b, c, d)
	o.lists[3], o.errors[4] = mesh.Vital(n, list, a, b)
	o.lists[4], o.errors[5] = mesh.Whole(n, list)
	o.lists[5], o.errors[6] = mesh.Without(n, list, q.thread, q.holds)
	o.lists[6], o.errors[7] = mesh.Crossed(q.size)
	o.chance, o.errors[8] = mesh.Chance(q.count, q.p)
	o.few, o.cut, o.errors[9] = mesh.Steps(n, list, a, b)
	o.knots, o.board, o.errors[10] = mesh.Board(q.size)
	return o
}

func copyOf(q question) question {
	q.m.threads, q.count = slices.Clone(q.m.threads), slices.Clone(q.count)
	return q
}

// questions are of meshes, counts and numbers, and of others that are none; where one
// is spoiled, the rest is mostly as it should be.
func questions() []question {
	numbers := []int{math.MinInt, -2, -1, 0, 1, 2, 3, 7, 8, 9, 10, 11, 13, 14, 8191, 8192, 50000, 50001, 1 << 32, math.MaxInt}
	all := chances()
	r := rand.New(rand.NewSource(30))
	number := func() int { return numbers[r.Intn(len(numbers))] }
	var list []question
	for _, m := range slices.Concat(named, randomNets(250, 9, 31), randomNets(20, 13, 32)) {
		q := question{m: m, set: r.Intn(1 << len(m.threads)), size: 1 + r.Intn(3), holds: r.Intn(2) == 0, p: all[r.Intn(len(all))]}
		q.knots = [4]int{r.Intn(m.n), r.Intn(m.n), r.Intn(m.n), r.Intn(m.n)}
		q.thread = r.Intn(len(m.threads) + 1)
		for range 1 + r.Intn(14) {
			q.count = append(q.count, r.Intn(50001))
		}
		q = copyOf(q)
		switch r.Intn(9) {
		case 0:
			q.m.n = number()
		case 1:
			q.m.threads = append(q.m.threads, api.Pair{A: number(), B: number()})
		case 2:
			q.knots[r.Intn(4)] = number()
		case 3:
			q.set, q.thread, q.size = number(), number(), number()
		case 4:
			q.count[r.Intn(len(q.count))] = number()
		case 5:
			q.p = ratio(number(), number())
		case 6:
			q.count = make([]int, 13+r.Intn(4))
		}
		list = append(list, q)
	}
	return append(list, question{}, question{m: net{2, make([]api.Pair, 100000)}, count: make([]int, 100000)})
}

// P1 and P2 of the document: all calls end without a panic, for all arguments,
// change none of them, and say the same again, alone or beside others.
func TestAllArguments(t *testing.T) {
	list := questions()
	first := make([]outcome, len(list))
	for k, q := range list {
		before := copyOf(q)
		first[k] = outcomeOf(q)
		if !reflect.DeepEqual(before, q) {
			t.Error("changed:", before, q)
		}
	}
	var group sync.WaitGroup
	for worker := range 4 {
		group.Go(func() {
			for step := range list {
				k := (step*7 + worker) % len(list)
				if got := outcomeOf(list[k]); !reflect.DeepEqual(got, first[k]) {
					t.Error(list[k], got, first[k])
				}
			}
		})
	}
	group.Wait()
}

// P1 of the document: numbers of all sizes, in all places
func TestAllNumbers(t *testing.T) {
	numbers := []int{math.MinInt, math.MinInt + 1, -1 << 32, -1, 0, 1, 2, 8, 9, 1 << 32, math.MaxInt - 1, math.MaxInt}
	for _, a := range numbers {
		for _, b := range numbers {
			for _, c := range numbers {
				for _, m := range []net{bridge, {a, threads(b, c)}} {
					q := question{m: m, knots: [4]int{a, b, c, a}, set: c, thread: b, count: []int{a, b, c}, p: ratio(a, b), size: c}
					if got, again := outcomeOf(q), outcomeOf(q); !reflect.DeepEqual(got, again) {
						t.Error(q, got, again)
					}
				}
			}
		}
	}
}

// spoil changes a list and what may lie behind it.
func spoil[T any](list []T, by T) {
	whole := list[:cap(list)]
	for i := range whole {
		whole[i] = by
	}
}

// Rule 4 of the document: what is done to a result shows in no argument, in no
// other result, and in no later call.
func TestNewMemory(t *testing.T) {
	for _, q := range questions() {
		before, want, got := copyOf(q), outcomeOf(q), outcomeOf(q)
		for k, list := range got.lists {
			spoil(list, -7)
			for other := k + 1; other < len(want.lists); other++ {
				if !slices.Equal(got.lists[other], want.lists[other]) {
					t.Error(q, k, other)
				}
			}
		}
		spoil(got.board, api.Pair{A: -7, B: -7})
		if again := outcomeOf(q); !reflect.DeepEqual(before, q) || !reflect.DeepEqual(again, want) {
			t.Error(before, q, again, want)
		}
	}
}
