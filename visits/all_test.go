package visits_test

import (
	"math/rand"
	"slices"
	"sync"
	"testing"

	"cloche/api"
	"cloche/visits"
)

// outcome is all that the package says of a shop, some pairs and two numbers.
type outcome struct {
	is, matching, wins, winsNow        bool
	largest, parts, needed, move       int
	answer, barrier, most, odd, starts int
	errors                             [11]api.Errno
}

func outcomeOf(shop []int, pairs []api.Pair, i, j int) outcome {
	var o outcome
	o.is = visits.IsShop(shop)
	list, e := visits.Largest(shop)
	for _, p := range list {
		o.largest = 101*o.largest + 11*p.A + p.B
	}
	o.errors[0] = e
	o.matching, o.errors[1] = visits.IsMatching(shop, pairs)
	o.needed, o.errors[2] = visits.Needed(shop)
	o.wins, o.errors[3] = visits.Wins(shop, i, j)
	o.winsNow, o.errors[4] = visits.Wins(shop, i|1, 0)
	o.move, o.errors[5] = visits.Move(shop, i|1, 0)
	o.answer, o.errors[6] = visits.Answer(shop, pairs, j)
	o.barrier, o.most, o.errors[7] = visits.Barrier(shop)
	o.odd, o.errors[8] = visits.Odd(shop, i)
	parts, e := visits.Parts(shop, i)
	for _, part := range parts {
		o.parts = 1031*o.parts + part
	}
	o.errors[9] = e
	o.starts, o.errors[10] = visits.Starts(shop)
	return o
}

// allLists are shops and other lists.
func allLists() [][]int {
	lists := append(smallShops(4), largeShops()...)
	lists = append(lists, noShops...)
	r := rand.New(rand.NewSource(3))
	for range 300 {
		list := make([]int, r.Intn(13))
		for i := range list {
			list[i] = someNumbers[r.Intn(len(someNumbers))]
		}
		lists = append(lists, list)
	}
	r.Shuffle(len(lists), func(i, j int) { lists[i], lists[j] = lists[j], lists[i] })
	return lists
}

// allMatches are lists of pairs that are matchings of some of the shops, and
// others.
func allMatches() [][]api.Pair {
	lists := [][]api.Pair{nil, {}, {{A: 0, B: 1}}, {{A: 0, B: 1}, {A: 2, B: 3}}, {{A: 1, B: 2}}, make([]api.Pair, 20)}
	r := rand.New(rand.NewSource(4))
	for range 60 {
		list := make([]api.Pair, r.Intn(6))
		for i := range list {
			list[i] = api.Pair{A: someNumbers[r.Intn(len(someNumbers))], B: someNumbers[r.Intn(len(someNumbers))]}
		}
		lists = append(lists, list)
	}
	return lists
}

// P1 and P2 of the document: all calls end without a panic, for all arguments,
// change none of them, and say the same again, alone or beside others.
func TestAllArguments(t *testing.T) {
	shops, matches := allLists(), allMatches()
	ask := func(k int) outcome {
		a, b := someNumbers[k%len(someNumbers)], someNumbers[k/5%len(someNumbers)]
		return outcomeOf(shops[k], matches[k%len(matches)], a, b)
	}
	first := make([]outcome, len(shops))
	for k := range shops {
		shop, pairs := slices.Clone(shops[k]), slices.Clone(matches[k%len(matches)])
		first[k] = ask(k)
		if !slices.Equal(shop, shops[k]) || !slices.Equal(pairs, matches[k%len(matches)]) {
			t.Error("changed:", shop, pairs)
		}
	}
	var group sync.WaitGroup
	for worker := range 4 {
		group.Go(func() {
			for step := range shops {
				k := (step*7 + worker) % len(shops)
				if got := ask(k); got != first[k] {
					t.Error(shops[k], got, first[k])
				}
			}
		})
	}
	group.Wait()
}
