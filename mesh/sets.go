package mesh

import (
	"sync"

	"cloche/api"
)

// demand is what is asked of a thread, whatever a set says of it.
type demand int

const (
	broken demand = iota
	holding
)

// in returns a set with a thread as it is asked to be.
func (as demand) in(set, thread int) int {
	if as == holding {
		return set | 1<<thread
	}
	return set &^ (1 << thread)
}

// reached returns the knots, as a sum of 2^knot, that are reached from one of them
// along the threads of a set.
func reached(threads []api.Pair, set, from int) int {
	knots := 1 << from
	for {
		wider := knots
		for i, thread := range threads {
			ends := 1<<thread.A | 1<<thread.B
			if set>>i&1 == 1 && wider&ends != 0 {
				wider |= ends
			}
		}
		if wider == knots {
			return knots
		}
		knots = wider
	}
}

func joined(threads []api.Pair, set, a, b int) bool {
	return reached(threads, set, a)>>b&1 == 1
}

// joining tells of each set whether a and b are joined in it, for what looks at the
// same sets again and again.
func joining(threads []api.Pair, a, b int) []bool {
	joins := make([]bool, 1<<len(threads))
	for set := range joins {
		joins[set] = joined(threads, set, a, b)
	}
	return joins
}

// apart reports whether a set can be parted into two of which one and other tell
// true.
func apart(set int, one, other []bool) bool {
	for part := set; ; part = (part - 1) & set { // all sets within the set, down to 0
		if one[part] && other[set&^part] {
			return true
		}
		if part == 0 {
			return false
		}
	}
}

// count returns, for each k, how many sets with k of so many threads have a
// property.
func count(threads int, has func(set int) bool) []int {
	return tally(threads, func(set int) int {
		if has(set) {
			return 1
		}
		return 0
	})
}

// workers is among how many goroutines the sets are divided.
const workers = 4

// tally returns, for each k, the sum of an amount over all sets with k of so many
// threads. Several goroutines ask for amounts at the same time.
func tally(threads int, amount func(set int) int) []int {
	parts := make(chan []int, workers) // has room for all of them, so that no worker waits
	var group sync.WaitGroup
	group.Add(workers)
	for first := range workers {
		go func() {
			defer group.Done()
			parts <- tallyFrom(first, threads, amount)
		}()
	}
	group.Wait()
	close(parts)
	sums := make([]int, threads+1)
	for part := range parts {
		for k, sum := range part {
			sums[k] += sum
		}
	}
	return sums
}

// tallyFrom does what tally does, for one worker's sets.
func tallyFrom(first, threads int, amount func(set int) int) []int {
	sums := make([]int, threads+1)
	for set := first; set < 1<<threads; set += workers {
		sums[threadsIn(set)] += amount(set)
	}
	return sums
}
