package discs_test

import (
	"math"
	"math/rand"
	"sync"
	"testing"

	"cloche/api"
	"cloche/discs"
)

// outcome is all that the package says of two quads and two numbers.
type outcome struct {
	is, root, same            bool
	turned, many, rooted      api.Quad
	roots                     [16]api.Quad
	turns, lesser, greater    int
	discs, rests, rootsLength int
	errors                    [8]api.Errno
}

func outcomeOf(q, p api.Quad, i, j int) outcome {
	var o outcome
	o.is, o.root = discs.IsQuad(q), discs.IsRoot(q)
	o.turned, o.errors[0] = discs.Turn(q, i)
	o.many, o.errors[1] = discs.Turns(q, []int{i, j, i})
	o.rooted, o.turns, o.errors[2] = discs.Root(q)
	roots, e := discs.Roots(i)
	o.rootsLength, o.errors[3] = len(roots), e
	copy(o.roots[:], roots)
	o.lesser, o.greater, o.errors[4] = discs.Fourth(i, j, q[0])
	list, e := discs.Discs(q, j)
	for _, bend := range list {
		o.discs = 31*o.discs + bend
	}
	o.errors[5] = e
	list, e = discs.Rests(q)
	for _, rest := range list {
		o.rests = 31*o.rests + rest
	}
	o.errors[6] = e
	o.same, o.errors[7] = discs.Same(q, p)
	return o
}

// P1 and P2 of the document: all calls end without a panic, for all arguments,
// and say the same again, alone or beside others.
func TestAllArguments(t *testing.T) {
	numbers := []int{math.MinInt, math.MinInt + 1, -1 << 53, -1 << 40, -100, -1, 0, 1, 2, 3, 4, 15, 100, 3000, 1 << 20, 1 << 40, 1<<40 + 1, 1 << 62, math.MaxInt}
	quads := append(someQuads(t)[:40], noQuads...)
	r := rand.New(rand.NewSource(3))
	for range 400 {
		var q api.Quad
		for i := range q {
			q[i] = numbers[r.Intn(len(numbers))]
		}
		quads = append(quads, q)
	}
	r.Shuffle(len(quads), func(i, j int) { quads[i], quads[j] = quads[j], quads[i] })
	first := make([]outcome, len(quads))
	ask := func(k int) outcome {
		a, b := numbers[k%len(numbers)], numbers[k/len(numbers)%len(numbers)]
		return outcomeOf(quads[k], quads[(k+1)%len(quads)], a, b)
	}
	for k := range quads {
		first[k] = ask(k)
	}
	var group sync.WaitGroup
	for worker := range 4 {
		group.Go(func() {
			for step := range quads {
				k := (step*7 + worker) % len(quads)
				if got := ask(k); got != first[k] {
					t.Error(k, quads[k], got, first[k])
				}
			}
		})
	}
	group.Wait()
}
