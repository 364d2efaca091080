package tones

import "math/bits"

func isKnot(frame []int, knot int) bool { return knot >= 0 && knot < len(frame) }

func joined(frame []int, a, b int) bool { return frame[a]>>b&1 == 1 }

func knotsIn(set int) int { return bits.OnesCount(uint(set)) }

// firstIn returns the first knot of a set that is not empty.
func firstIn(set int) int { return bits.TrailingZeros(uint(set)) }

func wires(frame []int) int {
	ends := 0
	for _, knots := range frame {
		ends += knotsIn(knots)
	}
	return ends / 2
}

// reached returns the set of the knots that are reached from one of them.
func reached(frame []int, from int) int {
	set := 1 << from
	for {
		wider := set
		for knot, knots := range frame {
			if set>>knot&1 == 1 {
				wider |= knots
			}
		}
		if wider == set {
			return set
		}
		set = wider
	}
}

// walksFrom returns, for each knot, how many walks of so many steps lead to it.
func walksFrom(frame []int, from, steps int) []int {
	walks := make([]int, len(frame))
	walks[from] = 1
	for range steps {
		next := make([]int, len(frame))
		for a := range frame {
			for b := range frame {
				if joined(frame, a, b) {
					next[b] += walks[a]
				}
			}
		}
		walks = next
	}
	return walks
}
