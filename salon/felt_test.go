package salon_test

import (
	"fmt"
	"slices"
	"strings"
	"testing"

	"cloche/api"
	"cloche/salon"
	"cloche/veils"
)

// P10.8: turn and root
func TestTurn(t *testing.T) {
	s := salon.New()
	tell(t, s, "turn -1", "! 2", "turn 4", "! 2", "turn 1125899906842624", "! 2",
		"turn 3", "3", "root", "-1 2 2 3 / 0",
		"turn 0", "15", "root", "-1 2 2 3 / 1", "turn 3", "35", "root", "-1 2 2 3 / 2",
		"turn 3", "3", "turn 0", "-1", "root", "-1 2 2 3 / 0",
		"turn 1", "6", "turn 2", "14", "audit", "good 7 0 0 0 0 1 0 14")
}

// P10.8: bends until one would be too large
func TestLargeBends(t *testing.T) {
	s, quad := salon.New(), api.Quad{-1, 2, 2, 3}
	for k := 0; ; k++ {
		i := k % 4
		bend := 2*(sum(quad[:])-quad[i]) - quad[i]
		if bend > 1<<40 {
			tell(t, s, fmt.Sprint("turn ", i), "! 4", fmt.Sprint("if turn ", i), "! 4", "turn 4", "! 2")
			break
		}
		quad[i] = bend
		tell(t, s, fmt.Sprint("turn ", i), fmt.Sprint(bend), "root", fmt.Sprint("-1 2 2 3 / ", k+1), "audit", fmt.Sprint("good ", k+1, " 0 0 0 0 1 0 ", slices.Max(quad[:])))
	}
	if a := s.Audit(); a.Bend < 1<<38 || a.Bend != slices.Max(quad[:]) || !a.Good {
		t.Error(a)
	}
}

// gone returns a pairing, written, that has gone around by one.
func gone(pairing string) string {
	var ends [6]int
	fmt.Sscan(pairing, &ends[0], &ends[1], &ends[2], &ends[3], &ends[4], &ends[5])
	var after [6]int
	for k, p := range ends {
		after[(k+1)%6] = (p + 1) % 6
	}
	return strings.Trim(fmt.Sprint(after), "[]")
}

// P10.9, and P10.14: all veils of three, reached from the first one by twists
func TestVeils(t *testing.T) {
	all := map[string]bool{}
	var visit func(s *salon.Salon, veil [][]int)
	visit = func(s *salon.Salon, veil [][]int) {
		if all[fmt.Sprint(veil)] {
			return
		}
		all[fmt.Sprint(veil)] = true
		checkGyrations(t, s.Copy(), veil)
		for i := -1; i <= 4; i++ {
			for j := -1; j <= 4; j++ {
				line := fmt.Sprint("twist ", i, " ", j)
				next, errno := veils.Turn(veil, i, j)
				if errno != api.OK {
					tell(t, s, line, fmt.Sprint("! ", int(errno)))
					continue
				}
				after := s.Copy()
				tell(t, after, line, pairingOf(next), "if "+line, pairingOf(veil))
				visit(after, next)
			}
		}
	}
	visit(salon.New(), [][]int{{1, 0, 0}, {0, 1, 0}, {0, 0, 1}})
	if len(all) != 7 {
		t.Error(len(all))
	}
}

func pairingOf(veil [][]int) string {
	pairing, _ := veils.Pairing(veil)
	return strings.Trim(fmt.Sprint(pairing), "[]")
}

// checkGyrations gyrates a salon with a veil six times.
func checkGyrations(t *testing.T, s *salon.Salon, veil [][]int) {
	t.Helper()
	before := len(s.Book())
	pairing := pairingOf(veil)
	for range 6 {
		gyrated, _ := veils.Gyrate(veil)
		pairing = gone(pairing)
		if pairing != pairingOf(gyrated) {
			t.Error(veil, gyrated)
		}
		tell(t, s, "gyrate", pairing)
		veil = gyrated
	}
	if len(s.Book()) != before+6 {
		t.Error(s.Book())
	}
}
