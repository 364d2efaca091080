package veils

// loom makes veils, number by number.
type loom struct {
	numbers       tableOf[int]
	rows, columns []int // the sums of the numbers so far
	veils         [][][]int
}

// woven returns all veils of a size, ascending.
func woven(n int) [][][]int {
	numbers := newTable(n, n, func(i, j int) int { return 0 })
	l := loom{numbers: numbers, rows: make([]int, n), columns: make([]int, n)}
	l.weave(0)
	return l.veils
}

// weave makes all veils that begin with the numbers that are there, ascending; place is
// the number of those, row by row.
func (l *loom) weave(place int) {
	n := len(l.numbers)
	if place == n*n {
		l.veils = append(l.veils, l.numbers.clone())
		return
	}
	i, j := place/n, place%n
	for number := -1; number <= 1; number++ {
		l.put(i, j, number)
		if l.isRight(i, j) {
			l.weave(place + 1)
		}
		l.put(i, j, 0)
	}
}

func (l *loom) put(i, j, number int) {
	more := number - l.numbers[i][j]
	l.numbers[i][j] += more
	l.rows[i] += more
	l.columns[j] += more
}

// isRight reports whether row i and column j still are as in a veil, up to this place.
func (l *loom) isRight(i, j int) bool {
	last := len(l.numbers) - 1
	return isSum(l.rows[i], j == last) && isSum(l.columns[j], i == last)
}
