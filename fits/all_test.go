package fits_test

import (
	"math"
	"math/rand"
	"reflect"
	"slices"
	"sync"
	"testing"

	"cloche/api"
	"cloche/fits"
)

// question is all that the package can be asked of.
type question struct {
	table                   [][]int
	x, y                    api.Parts
	order                   []int
	n, fashions, column, by int
}

// outcome is all that the package says of a question.
type outcome struct {
	is, rest, lasts  bool
	gain, limit      api.Ratio
	best             int
	lasting          []api.Parts
	resting          api.Parts
	shifted, renamed [][]int
	errors           [9]api.Errno
}

func outcomeOf(q question) outcome {
	var o outcome
	o.is = fits.IsMixture(q.n, q.x)
	o.gain, o.errors[0] = fits.Gain(q.table, q.x, q.y)
	o.rest, o.errors[1] = fits.AtRest(q.table, q.x)
	o.best, o.errors[2] = fits.Best(q.table, q.x)
	o.lasts, o.errors[3] = fits.Lasts(q.table, q.x)
	o.lasting, o.errors[4] = fits.Lasting(q.table)
	o.resting, o.errors[5] = fits.Resting(q.table, q.fashions)
	o.shifted, o.errors[6] = fits.Shifted(q.table, q.column, q.by)
	o.limit, o.errors[7] = fits.Limit(q.table, q.x, q.y)
	o.renamed, o.errors[8] = fits.Renamed(q.table, q.order)
	return o
}

func copyOf(q question) question {
	q.table = cloned(q.table)
	q.x.Nums, q.y.Nums, q.order = slices.Clone(q.x.Nums), slices.Clone(q.y.Nums), slices.Clone(q.order)
	return q
}

// questions are of tables, mixtures and numbers, and of others that are none;
// where one is spoiled, the rest is mostly as it should be.
func questions() []question {
	numbers := []int{math.MinInt, -41, -21, -20, -1, 0, 0, 1, 1, 2, 3, 5, 20, 21, 41, 10000, 10001, 1 << 32, math.MaxInt}
	mixtures := [][]api.Parts{nil, mixturesOf(1, 5), mixturesOf(2, 5), mixturesOf(3, 5)}
	r := rand.New(rand.NewSource(11))
	number := func() int { return numbers[r.Intn(len(numbers))] }
	spoil := func(list []int) {
		if len(list) > 0 {
			list[r.Intn(len(list))] = number()
		}
	}
	var list []question
	for _, table := range append(randomTables(800, 20, 12), randomTables(800, 1, 13)...) {
		n := len(table)
		q := copyOf(question{table: table, x: mixtures[n][r.Intn(len(mixtures[n]))], y: mixtures[n][r.Intn(len(mixtures[n]))], order: r.Perm(n), n: n, fashions: 1 + r.Intn(1<<n-1), column: r.Intn(n), by: r.Intn(5) - 2})
		switch r.Intn(12) {
		case 0:
			spoil(q.table[r.Intn(n)])
		case 1:
			spoil(q.x.Nums)
		case 2:
			spoil(q.y.Nums)
		case 3:
			q.x.Den, q.y.Den = number(), number()
		case 4:
			spoil(q.order)
		case 5:
			q.n, q.fashions, q.column, q.by = number(), number(), number(), number()
		case 6:
			q.table, q.x = noTables[r.Intn(len(noTables)-1)], noMixtures[r.Intn(len(noMixtures)-1)]
		}
		list = append(list, q)
	}
	return append(list, question{}, question{table: ring}, question{table: ring, x: api.Parts{Den: 1}, y: parts(1)})
}

// P1 and P2 of the document: all calls end without a panic, for all arguments,
// change none of them, and say the same again, alone or beside others.
func TestAllArguments(t *testing.T) {
	list := questions()
	first := make([]outcome, len(list))
	for k, q := range list {
		before := copyOf(q)
		first[k] = outcomeOf(q)
		if !reflect.DeepEqual(before, q) {
			t.Error("changed:", before, q)
		}
	}
	var group sync.WaitGroup
	for worker := range 4 {
		group.Go(func() {
			for step := range list {
				k := (step*7 + worker) % len(list)
				if got := outcomeOf(list[k]); !reflect.DeepEqual(got, first[k]) {
					t.Error(list[k], got, first[k])
				}
			}
		})
	}
	group.Wait()
}

// P1 of the document: numbers of all sizes, in all places
func TestAllNumbers(t *testing.T) {
	numbers := []int{math.MinInt, math.MinInt + 1, -1 << 32, -1, 0, 1, 2, 3, 1 << 32, math.MaxInt - 1, math.MaxInt}
	for _, a := range numbers {
		for _, b := range numbers {
			for _, c := range numbers {
				for _, table := range [][][]int{doves, {{a, b}, {b, c}}} {
					q := question{table: table, x: parts(a, b, c), y: parts(c, b, a), order: []int{a, b}, n: a, fashions: b, column: b, by: c}
					if got, again := outcomeOf(q), outcomeOf(q); !reflect.DeepEqual(got, again) {
						t.Error(q, got, again)
					}
				}
			}
		}
	}
}

// spoil changes a list and what may lie behind it.
func spoil(list []int) {
	whole := list[:cap(list)]
	for i := range whole {
		whole[i] = -7
	}
}

// Rule 4 of the document: what is done to a result shows in no argument, in no
// other result, and in no later call.
func TestNewMemory(t *testing.T) {
	for _, q := range questions() {
		before, want := copyOf(q), outcomeOf(q)
		var lists [][]int
		got := outcomeOf(q)
		for _, x := range got.lasting {
			lists = append(lists, x.Nums)
		}
		lists = append(append(append(lists, got.resting.Nums), got.shifted...), got.renamed...)
		for k, list := range lists {
			rest := cloned(lists[k+1:])
			spoil(list)
			if !reflect.DeepEqual(rest, cloned(lists[k+1:])) {
				t.Error(q, k)
			}
		}
		if again := outcomeOf(q); !reflect.DeepEqual(before, q) || !reflect.DeepEqual(again, want) {
			t.Error(before, q, again, want)
		}
	}
}
