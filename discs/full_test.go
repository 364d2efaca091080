package discs

import (
	"sort"
	"testing"

	"cloche/api"
)

// countUpTo counts the discs up to most that are laid after the root's own.
func countUpTo(q api.Quad, last, most int) int {
	count := 0
	for i := range q {
		next := q
		next[i] = 2*(q[0]+q[1]+q[2]+q[3]) - 3*q[i]
		if i != last && next[i] <= most {
			count += 1 + countUpTo(next, i, most)
		}
	}
	return count
}

// P1.6: no quad has more than MaxDiscs discs up to MaxMost (-1 2 2 3 has the
// most, 13965), so ErrFull is tested with a greater most.
func TestDiscsAreFull(t *testing.T) {
	root := api.Quad{-10, 18, 23, 27} // just MaxDiscs discs up to 39629
	most := sort.Search(50000, func(n int) bool { return n > 27 && len(root)+countUpTo(root, -1, n) > api.MaxDiscs })
	if l, errno := bendsUpTo(root, most-1); errno != api.OK || len(l) != api.MaxDiscs {
		t.Error(most, len(l), errno)
	}
	for _, n := range []int{most, most + 1, 1 << 40} {
		if l, errno := bendsUpTo(root, n); errno != api.ErrFull || len(l) != 0 {
			t.Error(n, len(l), errno)
		}
	}
}
