package blocks_test

import (
	"math"
	"math/rand"
	"slices"
	"sync"
	"testing"

	"cloche/api"
	"cloche/blocks"
)

// outcome is all that the package says of a shape, a quotient and two numbers.
type outcome struct {
	is, isCore                                                          bool
	hooks, beads, strips, core, many, quotient, of, turned, cores, ways int
	errors                                                              [10]api.Errno
}

// digest makes a number of lists; another order or length makes another one.
func digest(lists ...[]int) int {
	number := len(lists)
	for _, list := range lists {
		number = 1009*number + len(list)
		for _, item := range list {
			number = 1031*number + item
		}
	}
	return number
}

func outcomeOf(shape []int, quotient [][]int, n, wires int) outcome {
	var o outcome
	o.is = blocks.IsShape(shape)
	lists, e := blocks.Hooks(shape)
	o.hooks, o.errors[0] = digest(lists...), e
	list, e := blocks.Beads(shape)
	o.beads, o.errors[1] = digest(list), e
	lists, e = blocks.Strips(shape, wires)
	o.strips, o.errors[2] = digest(lists...), e
	list, many, e := blocks.Core(shape, wires)
	o.core, o.many, o.errors[3] = digest(list), many, e
	lists, e = blocks.Quotient(shape, wires)
	o.quotient, o.errors[4] = digest(lists...), e
	list, e = blocks.Of(shape, quotient)
	o.of, o.errors[5] = digest(list), e
	o.isCore, o.errors[6] = blocks.IsCore(shape, wires)
	list, e = blocks.Turned(shape)
	o.turned, o.errors[7] = digest(list), e
	lists, e = blocks.Cores(n, wires)
	o.cores, o.errors[8] = digest(lists...), e
	o.ways, o.errors[9] = blocks.Ways(shape)
	return o
}

// allLists are shapes and other lists.
func allLists() [][]int {
	numbers := []int{math.MinInt, -1, 0, 1, 1, 2, 2, 3, 5, 12, 40, 41, 1 << 32, math.MaxInt}
	lists := slices.Concat(smallShapes(8), fullShapes, noShapes, randomShapes(60))
	r := rand.New(rand.NewSource(3))
	for range 300 {
		list := make([]int, r.Intn(14))
		for i := range list {
			list[i] = numbers[r.Intn(len(numbers))]
		}
		lists = append(lists, list)
	}
	r.Shuffle(len(lists), func(i, j int) { lists[i], lists[j] = lists[j], lists[i] })
	return lists
}

// allQuotients are quotients, and lists that are none.
func allQuotients(lists [][]int) [][][]int {
	quotients := [][][]int{nil, {nil}, {nil, nil}, {{1}, nil}, {nil, {1}, {2, 1}}, {{1}, nil, nil, nil}, make([][]int, 5), make([][]int, 6), make([][]int, 7)}
	r := rand.New(rand.NewSource(4))
	for range 60 {
		quotient := make([][]int, r.Intn(9))
		for k := range quotient {
			quotient[k] = lists[r.Intn(len(lists))]
		}
		quotients = append(quotients, quotient)
	}
	return quotients
}

// P1 and P2 of the document: all calls end without a panic, for all arguments,
// change none of them, and say the same again, alone or beside others.
func TestAllArguments(t *testing.T) {
	lists := allLists()
	quotients := allQuotients(lists)
	ask := func(k int) outcome {
		return outcomeOf(lists[k], quotients[k%len(quotients)], k*k%31-5, k%9-1)
	}
	first := make([]outcome, len(lists))
	for k, list := range lists {
		before, quotient := slices.Clone(list), copied(quotients[k%len(quotients)])
		first[k] = ask(k)
		if !slices.Equal(before, list) || !same(quotient, quotients[k%len(quotients)]) {
			t.Error("changed:", before, quotient)
		}
	}
	var group sync.WaitGroup
	for worker := range 4 {
		group.Go(func() {
			for step := range lists {
				k := (step*7 + worker) % len(lists)
				if got := ask(k); got != first[k] {
					t.Error(lists[k], got, first[k])
				}
			}
		})
	}
	group.Wait()
	for _, n := range []int{math.MinInt, math.MaxInt} {
		if got, again := outcomeOf(nil, nil, n, n), outcomeOf(nil, nil, n, n); got != again {
			t.Error(n, got, again)
		}
	}
}

// spoil changes a list and what may lie behind it.
func spoil(list []int) {
	for i := range list {
		list[i] = -1
	}
	behind := list[len(list):cap(list)]
	for i := range behind {
		behind[i] = -1
	}
}

// Rule 4 of the document: what is done to a result shows in no argument, in no
// other result, and in no later call.
func TestNewMemory(t *testing.T) {
	for _, shape := range slices.Concat(smallShapes(7), fullShapes) {
		for wires := 2; wires <= 6; wires++ {
			before := slices.Clone(shape)
			core, _, _ := blocks.Core(shape, wires)
			quotient, _ := blocks.Quotient(shape, wires)
			of, _ := blocks.Of(core, quotient)
			beads, _ := blocks.Beads(shape)
			turned, _ := blocks.Turned(shape)
			strips, _ := blocks.Strips(shape, wires)
			hooks, _ := blocks.Hooks(shape)
			cores, _ := blocks.Cores(len(shape), wires)
			wholeCore, wholeQuotient := slices.Clone(core), copied(quotient)
			for _, list := range [][]int{of, beads, turned} {
				spoil(list)
			}
			if !slices.Equal(core, wholeCore) || !same(quotient, wholeQuotient) {
				t.Error(shape, wires, core, quotient)
			}
			for _, lists := range [][][]int{quotient, strips, hooks, cores} {
				spoilEach(t, lists)
			}
			spoil(core)
			if !slices.Equal(shape, before) {
				t.Fatal(before, wires, shape)
			}
			if again, _, _ := blocks.Core(shape, wires); !slices.Equal(again, wholeCore) {
				t.Error(shape, wires, again)
			}
		}
	}
}

// spoilEach spoils one list after the other, and checks that those after it stay
// as they are.
func spoilEach(t *testing.T, lists [][]int) {
	t.Helper()
	whole := copied(lists)
	for i, list := range lists {
		spoil(list)
		if !same(lists[i+1:], whole[i+1:]) {
			t.Error(whole, i, lists)
		}
	}
}
