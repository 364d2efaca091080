package mesh_test

import (
	"math/big"
	"math/rand"
	"slices"
	"testing"

	"cloche/api"
	"cloche/mesh"
)

func someNets(seed int64) []net {
	return slices.Concat(named, allNets(2, 3), allNets(3, 2), randomNets(60, 8, seed), randomNets(12, 13, seed+1))
}

// P7.8 (Harris) and P7.9 (van den Berg and Kesten), for all chances
func TestHelp(t *testing.T) {
	list, chance := value[[]int](t), value[api.Ratio](t)
	r := rand.New(rand.NewSource(20))
	more, less := 0, 0
	for _, m := range someNets(21) {
		for range 4 {
			a, b, c, d := r.Intn(m.n), r.Intn(m.n), r.Intn(m.n), r.Intn(m.n)
			one, other := list(mesh.Count(m.n, m.threads, a, b)), list(mesh.Count(m.n, m.threads, c, d))
			both := list(mesh.Both(m.n, m.threads, a, b, c, d))
			apart := list(mesh.Apart(m.n, m.threads, a, b, c, d))
			for _, p := range chances() {
				product := new(big.Rat).Mul(rat(chance(mesh.Chance(one, p))), rat(chance(mesh.Chance(other, p))))
				above := rat(chance(mesh.Chance(both, p))).Cmp(product)
				below := rat(chance(mesh.Chance(apart, p))).Cmp(product)
				if above < 0 || below > 0 {
					t.Error(m, a, b, c, d, p, above, below)
				}
				more += above
				less -= below
			}
		}
	}
	if more == 0 || less == 0 {
		t.Error("all of them equal:", more, less)
	}
}

// P7.10 (Russo)
func TestRusso(t *testing.T) {
	list := value[[]int](t)
	for _, m := range someNets(23) {
		last := len(m.threads)
		tables := tablesOf(m)
		for a := range m.n {
			for b := range m.n {
				c, v := list(mesh.Count(m.n, m.threads, a, b)), list(mesh.Vital(m.n, m.threads, a, b))
				inside, _ := vitalIn(m, tables, a, b)
				pivots := make([]int, last+2)
				for k := range c {
					pivots[k] = k * c[k]
					if k > 0 {
						pivots[k] -= (last + 1 - k) * c[k-1]
					}
				}
				if !slices.Equal(pivots[:last+1], inside) {
					t.Error(m, a, b, c, pivots, inside)
				}
				for k := range v {
					if v[k] != pivots[k]+pivots[k+1] {
						t.Error(m, a, b, v, pivots)
					}
				}
			}
		}
	}
}

// P7.11 (one thread)
func TestOneThread(t *testing.T) {
	list := value[[]int](t)
	for _, m := range someNets(25) {
		count := list(mesh.Count(m.n, m.threads, 0, 1))
		for thread := range m.threads {
			holds := list(mesh.Without(m.n, m.threads, thread, true))
			not := list(mesh.Without(m.n, m.threads, thread, false))
			for k, number := range count {
				if k < len(not) {
					number -= not[k]
				}
				if k > 0 {
					number -= holds[k-1]
				}
				if number != 0 {
					t.Error(m, thread, k, count, holds, not)
				}
			}
		}
	}
}

// P7.12 (steps)
func TestStepsByCount(t *testing.T) {
	list := value[[]int](t)
	for _, m := range someNets(27) {
		last := len(m.threads)
		for a := range m.n {
			for b := range m.n {
				few, cut, e := mesh.Steps(m.n, m.threads, a, b)
				if e != api.OK {
					continue
				}
				count := list(mesh.Count(m.n, m.threads, a, b))
				first, short := -1, -1
				for k, number := range count {
					if number > 0 && first < 0 {
						first = k
					}
					if number < choose(last, k) {
						short = k
					}
				}
				if first != few || short != last-cut {
					t.Error(m, a, b, few, cut, count)
				}
			}
		}
	}
}

// P7.13 (boards)
func TestEvenBoards(t *testing.T) {
	for size := 1; size <= 3; size++ {
		count := value[[]int](t)(mesh.Crossed(size))
		last := len(count) - 1
		for k := range count {
			if count[k]+count[last-k] != choose(last, k) {
				t.Error(size, k, count)
			}
		}
		if chance, e := mesh.Chance(count, ratio(1, 2)); chance != ratio(1, 2) || e != api.OK {
			t.Error(size, chance, e)
		}
	}
}
