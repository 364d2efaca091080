package veils_test

import (
	"math"
	"math/rand"
	"reflect"
	"slices"
	"sync"
	"testing"

	"cloche/api"
	"cloche/veils"
)

// question is all that the package can be asked of.
type question struct {
	table, other, heights, triangle [][]int
	pairing                         []int
	n, i, j                         int
}

// outcome is all that the package says of a question.
type outcome struct {
	is                       bool
	all                      [][][]int
	tables                   [8][][]int
	pairing                  []int
	number, minus, inversion int
	errors                   [11]api.Errno
}

func outcomeOf(q question) outcome {
	var o outcome
	o.is = veils.IsVeil(q.table)
	o.all, o.errors[0] = veils.All(q.n)
	o.tables[0], o.errors[1] = veils.Heights(q.table)
	o.tables[1], o.errors[2] = veils.Of(q.heights)
	o.tables[2], o.errors[3] = veils.Triangle(q.table)
	o.tables[3], o.errors[4] = veils.From(q.triangle)
	o.tables[4], o.errors[5] = veils.Turn(q.table, q.i, q.j)
	o.tables[5], o.errors[6] = veils.Gyrate(q.table)
	o.pairing, o.errors[7] = veils.Pairing(q.table)
	o.number, o.errors[8] = veils.Count(q.pairing)
	o.tables[6], o.tables[7], o.errors[9] = veils.Meet(q.table, q.other)
	o.minus, o.inversion, o.errors[10] = veils.Minus(q.table)
	return o
}

func copyOf(q question) question {
	q.table, q.other, q.heights, q.triangle = clone(q.table), clone(q.other), clone(q.heights), clone(q.triangle)
	q.pairing = slices.Clone(q.pairing)
	return q
}

// spoiled changes something in a table.
func spoiled(r *rand.Rand, table [][]int) [][]int {
	numbers := []int{math.MinInt, -1 << 32, -2, -1, 0, 1, 2, 3, 5, 6, 1 << 32, math.MaxInt}
	k := r.Intn(len(table))
	switch at := r.Intn(len(table[k])); r.Intn(4) {
	case 0:
		table[k] = append(table[k], numbers[r.Intn(len(numbers))])
	case 1:
		table[k] = slices.Delete(table[k], at, at+1)
	case 2:
		return slices.Delete(table, k, k+1)
	default:
		table[k][at] = numbers[r.Intn(len(numbers))]
	}
	return table
}

// questions are of veils of all sizes and of what can be read of them; in most of them
// something is spoiled.
func questions(t *testing.T) []question {
	t.Helper()
	whole := append(all(t, 4), cross, diamond)
	five := value[[][][]int](t)(veils.All(5))
	r := rand.New(rand.NewSource(90))
	for range 100 {
		whole = append(whole, five[r.Intn(len(five))])
	}
	var list []question
	for _, v := range whole {
		n := len(v)
		q := question{table: clone(v), other: unit(n), heights: heightsOf(v), triangle: triangleOf(v), pairing: pairingOf(t, v), n: 1 + r.Intn(3), i: r.Intn(n + 1), j: r.Intn(n + 1)}
		switch r.Intn(9) {
		case 0:
			q.table = spoiled(r, q.table)
		case 1:
			q.other = spoiled(r, q.other)
		case 2:
			q.heights = spoiled(r, q.heights)
		case 3:
			q.triangle = spoiled(r, q.triangle)
		case 4:
			q.pairing[r.Intn(2*n)] = r.Intn(2*n+2) - 1
		case 5:
			q.n, q.i, q.j = noNumbers[r.Intn(len(noNumbers))], noNumbers[r.Intn(len(noNumbers))], 1
		case 6:
			q.other, q.n, q.j = unit(1+r.Intn(6)), r.Intn(7), noNumbers[r.Intn(len(noNumbers))]
		}
		list = append(list, q)
	}
	wide, long := make([][]int, 100000), [][]int{make([]int, 100000)}
	return append(list, question{}, question{table: wide, other: wide, heights: wide, triangle: wide, pairing: long[0]}, question{table: long, other: long, heights: long, triangle: long})
}

// P1 and P2 of the document: all calls end without a panic, for all arguments,
// change none of them, and say the same again, alone or beside others.
func TestAllArguments(t *testing.T) {
	list := questions(t)
	first := make([]outcome, len(list))
	for k, q := range list {
		before := copyOf(q)
		first[k] = outcomeOf(q)
		if !reflect.DeepEqual(before, q) {
			t.Error("changed:", before, q)
		}
	}
	var group sync.WaitGroup
	for worker := range 4 {
		group.Go(func() {
			for step := range list {
				k := (step*7 + worker) % len(list)
				if got := outcomeOf(list[k]); !reflect.DeepEqual(got, first[k]) {
					t.Error(list[k], got, first[k])
				}
			}
		})
	}
	group.Wait()
}

// P1 of the document: numbers of all sizes, in all places
func TestAllNumbers(t *testing.T) {
	numbers := []int{math.MinInt, math.MinInt + 1, -1 << 32, -1, 0, 1, 2, 3, 1 << 32, math.MaxInt - 1, math.MaxInt}
	for _, a := range numbers {
		for _, b := range numbers {
			for _, c := range numbers {
				table, one := tableOf(2, a, b, c, 1), [][]int{{a}, {b, c}}
				q := question{table: table, other: unit(2), heights: table, triangle: one, pairing: []int{a, b, c, 0}, n: a, i: b, j: c}
				if got, again := outcomeOf(q), outcomeOf(q); !reflect.DeepEqual(got, again) {
					t.Error(q, got, again)
				}
				q.table, q.heights, q.pairing = unit(3), tableOf(3, 0, 1, 2, 1, a, 1, b, 1, c), []int{a, b}
				if got, again := outcomeOf(q), outcomeOf(q); !reflect.DeepEqual(got, again) {
					t.Error(q, got, again)
				}
			}
		}
	}
}

// spoil changes a table and what may lie behind it and behind its rows.
func spoil(table [][]int) {
	whole := table[:cap(table)]
	for i, row := range whole {
		row = row[:cap(row)]
		for j := range row {
			row[j] = -7
		}
		whole[i] = []int{-7}
	}
}

// tablesOfOutcome are all tables of an outcome, the pairing among them.
func tablesOfOutcome(o outcome) [][][]int {
	return slices.Concat(o.all, o.tables[:], [][][]int{{o.pairing}})
}

// Rule 4 of the document: what is done to a result shows in no argument, in no
// other result, and in no later call.
func TestNewMemory(t *testing.T) {
	for _, q := range questions(t) {
		before, want, got := copyOf(q), outcomeOf(q), outcomeOf(q)
		tables, wanted := tablesOfOutcome(got), tablesOfOutcome(want)
		for k, table := range tables {
			spoil(table)
			for other := k + 1; other < len(wanted); other++ {
				if !same(tables[other], wanted[other]) {
					t.Error(q, k, other)
				}
			}
		}
		if again := outcomeOf(q); !reflect.DeepEqual(before, q) || !reflect.DeepEqual(again, want) {
			t.Error(before, q, again, want)
		}
	}
}

// Rule 4 of the document: no two rows of one table share memory.
func TestNewRows(t *testing.T) {
	for _, q := range questions(t) {
		for _, table := range tablesOfOutcome(outcomeOf(q)) {
			want := clone(table)
			for i, row := range table {
				whole := row[:cap(row)]
				for j := range whole {
					whole[j] = -7
				}
				want[i] = row
				if !same(table, want) {
					t.Error(q, table, i)
				}
			}
		}
	}
}
