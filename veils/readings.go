package veils

import "slices"

// reading is what can be read of a veil, and tells the veil.
type reading interface {
	size() int        // of the veil
	sum(i, j int) int // of all its numbers in the first i rows and the first j columns
	isOf(v veil) bool // whether it is read of this veil
}

type (
	veil       tableOf[int]
	byHeights  tableOf[int]
	byTriangle tableOf[int]
)

// veilBy returns the only veil of which there can be this reading: the sums tell its
// numbers. If there is none, any table may come out, as the numbers may even overflow.
func veilBy(r reading) veil {
	n := r.size()
	return veil(newTable(n, n, func(i, j int) int {
		return r.sum(i+1, j+1) - r.sum(i, j+1) - r.sum(i+1, j) + r.sum(i, j)
	}))
}

func (v veil) sum(i, j int) int {
	sum := 0
	for _, row := range v[:i] {
		for _, number := range row[:j] {
			sum += number
		}
	}
	return sum
}

func heightsOf(v veil) byHeights {
	n := len(v)
	return byHeights(newTable(n+1, n+1, func(i, j int) int { return i + j - 2*v.sum(i, j) }))
}

func (h byHeights) size() int { return len(h) - 1 }

func (h byHeights) sum(i, j int) int { return (i + j - h[i][j]) / 2 }

func (h byHeights) isOf(v veil) bool {
	return slices.EqualFunc(h, heightsOf(v), slices.Equal[[]int])
}

func triangleOf(v veil) byTriangle {
	t := make(byTriangle, len(v))
	for k := range t {
		for column := 1; column <= len(v); column++ {
			if v.sum(k+1, column)-v.sum(k+1, column-1) == 1 {
				t[k] = append(t[k], column)
			}
		}
	}
	return t
}

func (t byTriangle) size() int { return len(t) }

// sum counts columns, as each one of row i stands for the sum 1 of that column.
func (t byTriangle) sum(i, j int) int {
	if i == 0 {
		return 0
	}
	sum := 0
	for _, column := range t[i-1] {
		if column <= j {
			sum++
		}
	}
	return sum
}

func (t byTriangle) isOf(v veil) bool {
	return slices.EqualFunc(t, triangleOf(v), slices.Equal[[]int])
}
