package veils_test

import (
	"math"
	"slices"
	"testing"

	"cloche/api"
	"cloche/veils"
)

// P9.6: Pairing, plain
func TestPairingPlain(t *testing.T) {
	for _, c := range []struct {
		table [][]int
		want  []int
	}{
		{unit(1), []int{1, 0}},
		{unit(2), []int{3, 2, 1, 0}},
		{backwards(unit(2)), []int{1, 0, 3, 2}},
		{unit(3), []int{5, 4, 3, 2, 1, 0}},
		{swap, []int{1, 0, 3, 2, 5, 4}},
		{cross, []int{1, 0, 5, 4, 3, 2}},
		{backwards(unit(3)), []int{3, 2, 1, 0, 5, 4}},
	} {
		if got := value[[]int](t)(veils.Pairing(c.table)); !slices.Equal(got, c.want) {
			t.Error(c.table, got, c.want)
		}
	}
}

// knot is a place of a veil, from 1 on, or beside it, where a thread ends outside.
type knot struct{ i, j int }

// threadsOf are the pairs of knots between which there is a thread, by the words of the
// chapter.
func threadsOf(table [][]int) [][2]knot {
	n, h := len(table), heightsOf(table)
	var threads [][2]knot
	for i := range n + 1 {
		for j := range n + 1 {
			even := (i+j)%2 == 0
			if i >= 1 && (h[i][j]-h[i-1][j] == 1 && even || h[i][j]-h[i-1][j] == -1 && !even) {
				threads = append(threads, [2]knot{{i, j}, {i, j + 1}})
			}
			if j >= 1 && (h[i][j]-h[i][j-1] == 1 && !even || h[i][j]-h[i][j-1] == -1 && even) {
				threads = append(threads, [2]knot{{i, j}, {i + 1, j}})
			}
		}
	}
	return threads
}

// around are the places beside a veil, from the top left one on, clockwise.
func around(n int) []knot {
	var list []knot
	for k := range n {
		list = append(list, knot{0, k + 1})
	}
	for k := range n {
		list = append(list, knot{k + 1, n + 1})
	}
	for k := range n {
		list = append(list, knot{n + 1, n - k})
	}
	for k := range n {
		list = append(list, knot{n - k, 0})
	}
	return list
}

// pairingOf joins all knots between which there are threads, and looks for the two ends
// of each such part.
func pairingOf(t *testing.T, table [][]int) []int {
	t.Helper()
	parts, met := make(map[knot]knot), make(map[knot]int)
	var partOf func(k knot) knot
	partOf = func(k knot) knot {
		if next, ok := parts[k]; ok {
			return partOf(next)
		}
		return k
	}
	for _, thread := range threadsOf(table) {
		a, b := partOf(thread[0]), partOf(thread[1])
		if a != b {
			parts[a] = b
		}
		met[thread[0]]++
		met[thread[1]]++
	}
	var ends []knot
	for _, place := range around(len(table)) {
		if met[place] == 1 {
			ends = append(ends, place)
		}
	}
	for i := range table {
		for j := range table {
			if met[knot{i + 1, j + 1}] != 2 {
				t.Error("not two threads:", table, i+1, j+1)
			}
		}
	}
	pairing := make([]int, len(ends))
	for a := range ends {
		for b := range ends {
			if a != b && partOf(ends[a]) == partOf(ends[b]) {
				pairing[a] = b
			}
		}
	}
	return pairing
}

// P9.6: Pairing of all veils
func TestPairing(t *testing.T) {
	for _, v := range all(t, 5) {
		want := pairingOf(t, v)
		if got := value[[]int](t)(veils.Pairing(v)); !slices.Equal(got, want) || len(got) != 2*len(v) {
			t.Error(v, got, want)
		}
	}
}

// At a knot whose number is not 0 the threads go straight on, and turn at all others.
func TestThreads(t *testing.T) {
	for _, v := range all(t, 5) {
		beside := make(map[knot][]knot)
		for _, thread := range threadsOf(v) {
			beside[thread[0]] = append(beside[thread[0]], thread[1])
			beside[thread[1]] = append(beside[thread[1]], thread[0])
		}
		for i := range v {
			for j := range v {
				two := beside[knot{i + 1, j + 1}]
				straight := two[0].i == two[1].i || two[0].j == two[1].j
				if straight != (v[i][j] != 0) {
					t.Error(v, i, j, two)
				}
			}
		}
	}
}

// pairings returns all lists that pair off so many ends.
func pairings(ends int) [][]int {
	var list [][]int
	pairing := slices.Repeat([]int{-1}, ends)
	var pair func()
	pair = func() {
		a := slices.Index(pairing, -1)
		if a < 0 {
			list = append(list, slices.Clone(pairing))
			return
		}
		for b := a + 1; b < ends; b++ {
			if pairing[b] < 0 {
				pairing[a], pairing[b] = b, a
				pair()
				pairing[a], pairing[b] = -1, -1
			}
		}
	}
	pair()
	return list
}

// crosses reports whether two pairs of a pairing cross, by the words of P9.14.
func crosses(pairing []int) bool {
	for a := range pairing {
		for b := a + 1; b < len(pairing); b++ {
			for c := b + 1; c < len(pairing); c++ {
				for d := c + 1; d < len(pairing); d++ {
					if pairing[a] == c && pairing[b] == d {
						return true
					}
				}
			}
		}
	}
	return false
}

// P9.6: Count, plain
func TestCountPlain(t *testing.T) {
	for _, c := range []struct {
		pairing []int
		want    int
	}{
		{[]int{1, 0}, 1},
		{[]int{1, 0, 3, 2}, 1},
		{[]int{3, 2, 1, 0}, 1},
		{[]int{2, 3, 0, 1}, 0},
		{[]int{1, 0, 3, 2, 5, 4}, 2},
		{[]int{5, 2, 1, 4, 3, 0}, 2},
		{[]int{5, 4, 3, 2, 1, 0}, 1},
		{[]int{3, 4, 5, 0, 1, 2}, 0},
		{[]int{1, 0, 3, 2, 5, 4, 7, 6}, 7},
		{[]int{7, 6, 5, 4, 3, 2, 1, 0}, 1},
		{[]int{1, 0, 3, 2, 5, 4, 7, 6, 9, 8}, 42},
		{[]int{9, 8, 7, 6, 5, 4, 3, 2, 1, 0}, 1},
		{[]int{5, 6, 7, 8, 9, 0, 1, 2, 3, 4}, 0},
	} {
		if got := value[int](t)(veils.Count(c.pairing)); got != c.want {
			t.Error(c, got)
		}
	}
}

// P9.6, P9.14: Count of all pairings; their sum is the number of veils.
func TestCount(t *testing.T) {
	for n := 1; n <= 5; n++ {
		want := make(map[string]int)
		whole := value[[][][]int](t)(veils.All(n))
		for _, v := range whole {
			want[keyOf([][]int{pairingOf(t, v)})]++
		}
		sum, some := 0, 0
		for _, pairing := range pairings(2 * n) {
			if n == 5 && crosses(pairing) && pairing[0] != 5 {
				continue // they are many, and all alike
			}
			got := value[int](t)(veils.Count(pairing))
			if got != want[keyOf([][]int{pairing})] || (got > 0) == crosses(pairing) {
				t.Error(pairing, got)
			}
			if sum += got; got > 0 {
				some++
			}
		}
		if sum != len(whole) || some != []int{0, 1, 2, 5, 14, 42}[n] {
			t.Error(n, sum, some)
		}
	}
}

// P9.6: Count of what does not pair off its ends
func TestCountRefused(t *testing.T) {
	no := refused(t, api.ErrArg)
	for _, list := range [][]int{nil, {}, {0}, {1}, {0, 1}, {0, 0}, {1, 1}, {1, 2}, {-1, 0}, {1, -1}, {1, 0, 2}, {1, 2, 0}, {1, 0, 3}, {1, 2, 0, 3}, {1, 2, 3, 0}, {1, 0, 2, 3}, {1, 0, 0, 0}, {1, 0, 4, 2}, {2, 3, 1, 0},
		{1, 0, 3, 2, 4}, {1, 0, 3, 2, 5, 4, 7, 6, 9, 8, 10}, {1, 0, 3, 2, 5, 4, 7, 6, 9, 8, 11, 10}, make([]int, 12), make([]int, 100001)} {
		no(noneOf(veils.Count(list)))
	}
	for n := 1; n <= 5; n++ {
		whole := pairings(2 * n)
		for at := range 2 * n {
			for _, number := range []int{math.MinInt, -1 << 32, -2 * n, -1, at, 2 * n, 2*n + 1, 1 << 32, math.MaxInt} {
				list := slices.Clone(whole[(at*7)%len(whole)])
				list[at] = number
				no(noneOf(veils.Count(list)))
			}
			list := slices.Clone(whole[0])
			list[at] = list[(at+2)%(2*n)]
			if n > 1 {
				no(noneOf(veils.Count(list)))
			}
		}
	}
}

// P9.6: all lists of up to four small numbers
func TestCountLists(t *testing.T) {
	known := make(map[string]bool)
	for ends := 2; ends <= 4; ends += 2 {
		for _, pairing := range pairings(ends) {
			known[keyOf([][]int{pairing})] = true
		}
	}
	for _, list := range rowsUpTo(4, -1, 4) {
		if _, e := veils.Count(list); (e == api.OK) != known[keyOf([][]int{list})] {
			t.Error(list, e)
		}
	}
}
