package tones_test

import (
	"testing"

	"cloche/api"
	"cloche/tones"
)

// P8.2: figures that are plain
func TestPlainFigures(t *testing.T) {
	for _, c := range []struct {
		frame     []int
		knots     int
		sum, many int
	}{
		{bare(1), 0, 1, 1},
		{bare(1), 1, 0, 0},
		{bare(7), 2, 0, 0},
		{wire, 0, 1, 1},
		{wire, 1, 0, 0},
		{wire, 2, -1, 1},
		{triangle, 0, 1, 1},
		{triangle, 1, 0, 0},
		{triangle, 2, -3, 3},
		{triangle, 3, -2, 1},
		{square, 4, 0, 3},
		{square, 5, 0, 0},
		{rings, 5, 8, 4},
		{rings, 7, 0, 3},
		{row(6), 6, -1, 1},
		{star(5), 4, 0, 0},
		{full(4), 4, -3, 6},
		{full(5), 5, -4, 22},
		{full(6), 6, -5, 130},
		{full(7), 7, -6, 822},
	} {
		if sum, many, e := tones.Figures(c.frame, c.knots); sum != c.sum || many != c.many || e != api.OK {
			t.Error(c, sum, many, e)
		}
	}
}

// drawing is a set of the wires of a frame.
type drawing struct {
	wires []api.Pair
	ends  [7]int // how many of them each knot has
}

// isFigure: a wire alone has ends of which each has one wire, and a ring's have two.
func (d drawing) isFigure() bool {
	for _, wire := range d.wires {
		if d.ends[wire.A] != d.ends[wire.B] {
			return false
		}
	}
	return true
}

// counts returns how many knots, parts and rings a figure has.
func (d drawing) counts() (knots, parts, rings int) {
	seen := [7]bool{}
	var visit func(knot int)
	visit = func(knot int) {
		seen[knot] = true
		for _, wire := range d.wires {
			if wire.A == knot && !seen[wire.B] {
				visit(wire.B)
			}
			if wire.B == knot && !seen[wire.A] {
				visit(wire.A)
			}
		}
	}
	for knot, ends := range d.ends {
		if ends == 0 {
			continue
		}
		knots++
		if !seen[knot] {
			parts++
			rings += ends - 1
			visit(knot)
		}
	}
	return knots, parts, rings
}

// drawn returns, for each number of knots, the sum and the number of the figures that
// are drawn wire by wire.
func drawn(frame []int) [8][2]int {
	var totals [8][2]int
	list := wiresOf(frame)
	var draw func(i int, d drawing)
	draw = func(i int, d drawing) {
		if i < len(list) {
			draw(i+1, d)
			wire := list[i]
			if d.ends[wire.A] < 2 && d.ends[wire.B] < 2 {
				d.wires = append(append([]api.Pair{}, d.wires...), wire)
				d.ends[wire.A]++
				d.ends[wire.B]++
				draw(i+1, d)
			}
			return
		}
		if d.isFigure() {
			knots, parts, rings := d.counts()
			weight := 1 << rings
			if parts%2 == 1 {
				weight = -weight
			}
			totals[knots][0] += weight
			totals[knots][1]++
		}
	}
	draw(0, drawing{})
	return totals
}

// P8.2: Figures by drawing them
func TestFigures(t *testing.T) {
	for _, frame := range someFrames(60, 20) {
		totals := drawn(frame)
		for knots := range len(frame) + 1 {
			sum, many, e := tones.Figures(frame, knots)
			if sum != totals[knots][0] || many != totals[knots][1] || e != api.OK {
				t.Error(frame, knots, sum, many, e, totals[knots])
			}
		}
	}
}

// P8.2: the error of the number of knots
func TestNoFigures(t *testing.T) {
	no := refused(t, api.ErrArg)
	for _, frame := range named() {
		for _, knots := range append([]int{len(frame) + 1, len(frame) + 2}, noNumbers...) {
			no(two(tones.Figures(frame, knots)))
		}
	}
}
