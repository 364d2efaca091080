package veils

// tableOf is rows of values: of numbers, or of what is known of each knot.
type tableOf[T any] [][]T

// newTable returns the table that has value(i, j) in row i and column j, from 0 on.
func newTable[T any](rows, columns int, value func(i, j int) T) tableOf[T] {
	t := make(tableOf[T], rows)
	for i := range t {
		t[i] = make([]T, columns)
		for j := range t[i] {
			t[i][j] = value(i, j)
		}
	}
	return t
}

func (t tableOf[T]) isSquare() bool {
	for _, row := range t {
		if len(row) != len(t) {
			return false
		}
	}
	return true
}

func (t tableOf[T]) column(j int) []T {
	column := make([]T, len(t))
	for i := range t {
		column[i] = t[i][j]
	}
	return column
}

func (t tableOf[T]) clone() tableOf[T] {
	rows := make(tableOf[T], len(t))
	for i := range t {
		rows[i] = append(rows[i], t[i]...)
	}
	return rows
}
