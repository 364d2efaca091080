package veils_test

import (
	"math/rand"
	"testing"

	"cloche/api"
	"cloche/veils"
)

// P9.7: Meet, plain
func TestMeetPlain(t *testing.T) {
	other := tableOf(3, 1, 0, 0, 0, 0, 1, 0, 1, 0)
	for _, c := range []struct{ a, b, lesser, greater [][]int }{
		{unit(1), unit(1), unit(1), unit(1)},
		{swap, other, unit(3), cross},
		{other, swap, unit(3), cross},
		{swap, swap, swap, swap},
		{unit(3), cross, unit(3), cross},
		{unit(5), backwards(unit(5)), unit(5), backwards(unit(5))},
		{tableOf(3, 0, 0, 1, 1, 0, 0, 0, 1, 0), tableOf(3, 0, 1, 0, 0, 0, 1, 1, 0, 0), cross, backwards(unit(3))},
	} {
		lesser, greater, e := veils.Meet(c.a, c.b)
		if !same(lesser, c.lesser) || !same(greater, c.greater) || e != api.OK {
			t.Error(c, lesser, greater, e)
		}
	}
}

// checkMeet fails the test if Meet is not as the chapter says.
func checkMeet(t *testing.T, a, b [][]int) {
	t.Helper()
	lesser, greater, e := veils.Meet(a, b)
	if !isVeil(lesser) || !isVeil(greater) || e != api.OK {
		t.Fatal(a, b, lesser, greater, e)
	}
	x, y, low, high := heightsOf(a), heightsOf(b), heightsOf(lesser), heightsOf(greater)
	for i := range x {
		for j := range x {
			if low[i][j] != min(x[i][j], y[i][j]) || high[i][j] != max(x[i][j], y[i][j]) {
				t.Error(a, b, lesser, greater)
			}
		}
	}
}

// P9.7, P9.11: Meet of all pairs of veils up to size 4, and of many of size 5
func TestMeet(t *testing.T) {
	for n := 1; n <= 4; n++ {
		whole := value[[][][]int](t)(veils.All(n))
		for _, a := range whole {
			for _, b := range whole {
				checkMeet(t, a, b)
			}
		}
	}
	whole := value[[][][]int](t)(veils.All(5))
	r := rand.New(rand.NewSource(4))
	for range 4000 {
		checkMeet(t, whole[r.Intn(len(whole))], whole[r.Intn(len(whole))])
	}
}

// P9.7: the errors of Meet
func TestMeetRefused(t *testing.T) {
	no := refused(t, api.ErrArg)
	for a := 1; a <= 5; a++ {
		for b := 1; b <= 5; b++ {
			if a != b {
				no(two(veils.Meet(unit(a), unit(b))))
			}
		}
	}
}
