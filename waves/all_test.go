package waves_test

import (
	"math"
	"math/rand"
	"slices"
	"sync"
	"testing"

	"cloche/api"
	"cloche/waves"
)

// outcome is all that the package says of a list and two numbers.
type outcome struct {
	isWave, isAndre, isSnake                                          bool
	count, from, triangle, rank, at, turned, turns, andreRows, snakes int
	errors                                                            [12]api.Errno
}

// digest makes a number of lists; another order or length makes another one.
func digest(lists ...[]int) int {
	number := len(lists)
	for _, list := range lists {
		number = 1009*number + len(list)
		for _, item := range list {
			number = 1031*number + item
		}
	}
	return number
}

func outcomeOf(list []int, n, k int) outcome {
	var o outcome
	o.isWave, o.errors[0] = waves.IsWave(list)
	o.count, o.errors[1] = waves.Count(n)
	o.from, o.errors[2] = waves.From(n, k)
	triangle, e := waves.Triangle(n)
	o.triangle, o.errors[3] = digest(triangle...), e
	o.rank, o.errors[4] = waves.Rank(list)
	at, e := waves.At(n, k)
	o.at, o.errors[5] = digest(at), e
	turned, e := waves.Turned(list)
	o.turned, o.errors[6] = digest(turned), e
	o.turns, o.errors[7] = waves.Turns(list)
	o.isAndre, o.errors[8] = waves.IsAndre(list)
	o.andreRows, o.errors[9] = waves.Andre(n)
	o.isSnake, o.errors[10] = waves.IsSnake(list)
	o.snakes, o.errors[11] = waves.Snakes(n)
	return o
}

// allLists are rows, waves, signed lists and other lists.
func allLists() [][]int {
	numbers := []int{math.MinInt, -11, -2, -1, 0, 1, 1, 2, 2, 3, 4, 5, 10, 11, 1 << 32, math.MaxInt}
	lists := slices.Concat([][]int{nil, {}}, noRows, longLists[:4], rowsOf(4), wavesOf(5), signedOf(3))
	r := rand.New(rand.NewSource(5))
	for range 300 {
		list := make([]int, r.Intn(13))
		for i := range list {
			list[i] = numbers[r.Intn(len(numbers))]
		}
		row := r.Perm(1 + r.Intn(11))
		for i := range row {
			row[i]++
		}
		lists = append(lists, list, row)
	}
	r.Shuffle(len(lists), func(i, j int) { lists[i], lists[j] = lists[j], lists[i] })
	return lists
}

// P1 and P2 of the document: all calls end without a panic, for all arguments,
// change none of them, and say the same again, alone or beside others.
func TestAllArguments(t *testing.T) {
	lists := allLists()
	ask := func(k int) outcome { return outcomeOf(lists[k], k%23-2, k*k%61-3) }
	first := make([]outcome, len(lists))
	for k, list := range lists {
		before := slices.Clone(list)
		first[k] = ask(k)
		if !slices.Equal(before, list) {
			t.Error("changed:", before, list)
		}
	}
	var group sync.WaitGroup
	for worker := range 4 {
		group.Go(func() {
			for step := range lists {
				k := (step*7 + worker) % len(lists)
				if got := ask(k); got != first[k] {
					t.Error(lists[k], got, first[k])
				}
			}
		})
	}
	group.Wait()
}

// P1 of the document: numbers of all sizes
func TestAllNumbers(t *testing.T) {
	numbers := []int{math.MinInt, math.MinInt + 1, -1 << 32, -1, 0, 1, 5, 6, 7, 10, 11, 18, 19, 1 << 32, math.MaxInt - 1, math.MaxInt}
	for _, n := range numbers {
		for _, k := range numbers {
			if got, again := outcomeOf(nil, n, k), outcomeOf(nil, n, k); got != again {
				t.Error(n, k, got, again)
			}
		}
	}
}

// spoil changes a list and what may lie behind it.
func spoil(list []int) {
	for i := range list {
		list[i] = -1
	}
	behind := list[len(list):cap(list)]
	for i := range behind {
		behind[i] = -1
	}
}

// Rule 4 of the document: what is done to a result shows in no argument, in no
// other result, and in no later call.
func TestNewMemory(t *testing.T) {
	for n := range 8 {
		for rank, wave := range wavesOf(n) {
			before := slices.Clone(wave)
			turned, _ := waves.Turned(wave)
			at, _ := waves.At(n, rank)
			again, _ := waves.At(n, rank)
			spoil(turned)
			spoil(at)
			if !slices.Equal(wave, before) || !slices.Equal(again, before) {
				t.Error(before, wave, again)
			}
		}
	}
	for n := range 19 {
		whole, _ := waves.Triangle(n)
		triangle, _ := waves.Triangle(n)
		for k, row := range triangle {
			spoil(row)
			if !same(triangle[k+1:], whole[k+1:]) {
				t.Error(n, k, triangle)
			}
		}
		if again, _ := waves.Triangle(n); !same(again, whole) {
			t.Error(n, again)
		}
	}
}
