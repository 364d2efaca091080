package discs

import "math/bits"

// wide is a whole number from 0 to 2^128 - 1: the squares of bends do not fit
// into 64 bits.
type wide struct{ high, low uint64 }

// square is the square of a number that is above the least int.
func square(n int) wide {
	size := uint64(max(n, -n))
	high, low := bits.Mul64(size, size)
	return wide{high, low}
}

func (w wide) plus(v wide) wide {
	low, carry := bits.Add64(w.low, v.low, 0)
	high, _ := bits.Add64(w.high, v.high, carry)
	return wide{high, low}
}
