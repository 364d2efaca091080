package tones_test

import (
	"slices"
	"testing"

	"cloche/api"
	"cloche/tones"
)

// P8.1: polynomials that are plain
func TestPlainPolynomials(t *testing.T) {
	for _, c := range []struct{ frame, tones, matchings []int }{
		{bare(1), []int{0, 1}, []int{0, 1}},
		{bare(7), []int{0, 0, 0, 0, 0, 0, 0, 1}, []int{0, 0, 0, 0, 0, 0, 0, 1}},
		{wire, []int{-1, 0, 1}, []int{-1, 0, 1}},
		{triangle, []int{-2, -3, 0, 1}, []int{0, -3, 0, 1}},
		{[]int{30, 1, 1, 1, 1}, []int{0, 0, 0, -4, 0, 1}, []int{0, 0, 0, -4, 0, 1}},
		{square, []int{0, 0, 0, -4, 0, 1}, []int{0, 2, 0, -4, 0, 1}},
		{row(4), []int{1, 0, -3, 0, 1}, []int{1, 0, -3, 0, 1}},
		{row(7), []int{0, -4, 0, 10, 0, -6, 0, 1}, []int{0, -4, 0, 10, 0, -6, 0, 1}},
		{ring(7), []int{-2, -7, 0, 14, 0, -7, 0, 1}, []int{0, -7, 0, 14, 0, -7, 0, 1}},
		{full(4), []int{-3, -8, -6, 0, 1}, []int{3, 0, -6, 0, 1}},
		{full(7), []int{-6, -35, -84, -105, -70, -21, 0, 1}, []int{0, -105, 0, 105, 0, -21, 0, 1}},
	} {
		p, e := tones.Tones(c.frame)
		q, f := tones.Matchings(c.frame)
		if !slices.Equal(p, c.tones) || !slices.Equal(q, c.matchings) || e != api.OK || f != api.OK {
			t.Error(c, p, q, e, f)
		}
	}
}

// determinant is that of x times the unit table less the frame's table, as the sum
// over all orders of the knots; at each knot, order[knot] is that of the table's column.
func determinant(frame []int) []int {
	numbers := make([]int, len(frame)+1)
	var walk func(order []int, product, fixed int)
	walk = func(order []int, product, fixed int) {
		knot := len(order)
		if knot == len(frame) {
			numbers[fixed] += product
			return
		}
		for column := range frame {
			if slices.Contains(order, column) {
				continue
			}
			sign := 1
			for _, before := range order {
				if before > column {
					sign = -sign
				}
			}
			if column == knot {
				walk(append(order, column), product*sign, fixed+1)
			} else if frame[knot]>>column&1 == 1 {
				walk(append(order, column), -product*sign, fixed)
			}
		}
	}
	walk(nil, 1, 0)
	return numbers
}

// matched is by the words of the chapter: each wire is in the set, or is not.
func matched(frame []int) []int {
	numbers := make([]int, len(frame)+1)
	list := wiresOf(frame)
	var walk func(i, knots, sign, left int)
	walk = func(i, knots, sign, left int) {
		if i == len(list) {
			numbers[left] += sign
			return
		}
		walk(i+1, knots, sign, left)
		if ends := 1<<list[i].A | 1<<list[i].B; knots&ends == 0 {
			walk(i+1, knots|ends, -sign, left-2)
		}
	}
	walk(0, 0, 1, len(frame))
	return numbers
}

// P8.1: Tones by the determinant, and Matchings by sets of wires
func TestPolynomials(t *testing.T) {
	for _, frame := range someFrames(200, 10) {
		p, e := tones.Tones(frame)
		if want := determinant(frame); !slices.Equal(p, want) || e != api.OK {
			t.Error(frame, p, e, want)
		}
		p, e = tones.Matchings(frame)
		if want := matched(frame); !slices.Equal(p, want) || e != api.OK {
			t.Error(frame, p, e, want)
		}
	}
}
