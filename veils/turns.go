package veils

func (h byHeights) isInner(i, j int) bool {
	return i >= 1 && i < h.size() && j >= 1 && j < h.size()
}

// isFree reports whether an inner height can be turned.
func (h byHeights) isFree(i, j int) bool {
	around := h[i-1][j]
	return h[i+1][j] == around && h[i][j-1] == around && h[i][j+1] == around
}

// turn turns a free height.
func (h byHeights) turn(i, j int) { h[i][j] = 2*h[i-1][j] - h[i][j] }

// turnAll turns all inner heights that are free and for which i + j is even (0) or odd
// (1). None of them is next to another one, so that their order does not matter.
func (h byHeights) turnAll(odd int) {
	for i := 1; i < h.size(); i++ {
		for j := 1; j < h.size(); j++ {
			if (i+j)%2 == odd && h.isFree(i, j) {
				h.turn(i, j)
			}
		}
	}
}

// merged returns the heights that choose takes of two heights, at each place.
func merged(a, b byHeights, choose func(x, y int) int) byHeights {
	return byHeights(newTable(len(a), len(a), func(i, j int) int { return choose(a[i][j], b[i][j]) }))
}
