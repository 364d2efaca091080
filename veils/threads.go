package veils

import "slices"

// threads tells whether a thread leads from the knot i, j to the right, and downwards.
type threads struct{ right, down tableOf[bool] }

// way is a knot, and a direction in which one may leave it: steps down and to the right,
// one of them 1 or -1, the other 0.
type way struct{ i, j, down, right int }

func threadsOf(v veil) threads {
	n, h := len(v), heightsOf(v)
	return threads{
		right: newTable(n+1, n+1, func(i, j int) bool {
			return i > 0 && (h[i][j] > h[i-1][j]) == ((i+j)%2 == 0)
		}),
		down: newTable(n+1, n+1, func(i, j int) bool {
			return j > 0 && (h[i][j] > h[i][j-1]) == ((i+j)%2 == 1)
		}),
	}
}

// leads reports whether a thread leads this way.
func (t threads) leads(w way) bool {
	switch {
	case w.down == 1:
		return t.down[w.i][w.j]
	case w.down == -1:
		return t.down[w.i-1][w.j]
	case w.right == 1:
		return t.right[w.i][w.j]
	}
	return t.right[w.i][w.j-1]
}

// ends returns the ways out, in the order of the ends.
func (t threads) ends() []way {
	n := len(t.right) - 1
	var around []way
	for k := 1; k <= n; k++ {
		around = append(around, way{i: 1, j: k, down: -1})
	}
	for k := 1; k <= n; k++ {
		around = append(around, way{i: k, j: n, right: 1})
	}
	for k := n; k >= 1; k-- {
		around = append(around, way{i: n, j: k, down: 1})
	}
	for k := n; k >= 1; k-- {
		around = append(around, way{i: k, j: 1, right: -1})
	}
	return slices.DeleteFunc(around, func(w way) bool { return !t.leads(w) })
}

// through returns the way on which one leaves a knot to which one came by another way:
// two threads meet at each knot.
func (t threads) through(came way) way {
	w := came
	for {
		w.down, w.right = w.right, -w.down
		if t.leads(w) {
			return w
		}
	}
}

// back returns the way that leads back from where a way leads.
func (w way) back() way {
	return way{i: w.i + w.down, j: w.j + w.right, down: -w.down, right: -w.right}
}

func (t threads) isKnot(i, j int) bool {
	n := len(t.right) - 1
	return i >= 1 && i <= n && j >= 1 && j <= n
}

// otherEnd follows the threads from an end, and returns the way on which they come out
// again.
func (t threads) otherEnd(end way) way {
	came := end
	for {
		w := t.through(came)
		came = w.back()
		if !t.isKnot(came.i, came.j) {
			return w
		}
	}
}

// pairing returns, for each end, the one that it is paired with.
func (t threads) pairing() []int {
	ends := t.ends()
	pairs := make([]int, len(ends))
	for k, end := range ends {
		pairs[k] = slices.Index(ends, t.otherEnd(end))
	}
	return pairs
}
