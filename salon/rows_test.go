package salon_test

import (
	"fmt"
	"strconv"
	"strings"
	"testing"

	"cloche/aloud"
	"cloche/blocks"
	"cloche/salon"
)

// P10.6: read, day by day
func TestReadBeads(t *testing.T) {
	s := salon.New()
	word := "1"
	for day := 1; ; day++ {
		word, _ = aloud.Days("1", day)
		if len(word) > 200 {
			tell(t, s, "read", "! 8", "read", "! 8", "if read", "! 8")
			break
		}
		tell(t, s, "read", strconv.Itoa(len(word)), "beads", word[:min(40, len(word))])
	}
	if a := s.Audit(); a.Beads > 200 || a.Beads*2 < 200 || a.Commands < 10 {
		t.Error(a)
	}
}

// P10.6: runs that cannot be said
func TestLongRuns(t *testing.T) {
	s := made(t, times(8, "bead 1")...)
	tell(t, s, "beads", "111111111", "if read", "2", "bead 1", "10", "read", "! 4", "bead 2", "11", "read", "! 4", "beads", "11111111112")
	tell(t, made(t, times(8, "bead 1")...), "read", "2", "beads", "91", "read", "4", "beads", "1911")
}

// P10.6: bead, and as many as there may be
func TestAddBeads(t *testing.T) {
	s := salon.New()
	row := "1"
	for len(row) < 200 {
		digit := strconv.Itoa(2 + len(row)%8)
		row += digit
		tell(t, s, "bead 0", "! 2", "bead 10", "! 2", "bead -1", "! 2", "bead "+digit, strconv.Itoa(len(row)), "beads", row[:min(40, len(row))])
		if len(row) == 100 {
			tell(t, s, "if read", "200") // 100 runs
		}
		if len(row) == 101 {
			tell(t, s, "if read", "! 8")
		}
	}
	tell(t, s, "bead 1", "! 8", "bead 9", "! 8", "bead 0", "! 2", "bead 10", "! 2", "bead 1125899906842624", "! 2", "read", "! 8")
	if a := s.Audit(); a.Beads != 200 || a.Commands != 199 || !a.Good {
		t.Error(a)
	}
	// A row of 200 that is too long in both ways cannot be said first.
	both := made(t, append(times(10, "bead 1"), strings.Split(strings.Repeat("bead 2\nbead 3\n", 94)+"bead 2", "\n")...)...)
	tell(t, both, "bead 3", "! 8", "read", "! 4")
}

// P10.7: stack
func TestStack(t *testing.T) {
	s := salon.New()
	tell(t, s, "stack 0", "! 2", "stack -1", "! 2", "stack 41", "! 2", "stack 1125899906842624", "! 2", "if stack 40", "40",
		"stack 20", "20", "stack 21", "! 2", "stack 20", "40", "stack 1", "! 2", "hooks", stairs(21, 20)+" / "+stairs(20, 20))
	if a := s.Audit(); a.Blocks != 40 || a.Commands != 2 || !a.Good {
		t.Error(a)
	}
	tall := made(t, times(12, "stack 1")...)
	tell(t, tall, "stack 1", "! 2", "hooks", "12 / 11 / 10 / 9 / 8 / 7 / 6 / 5 / 4 / 3 / 2 / 1", "audit", "good 12 0 0 0 0 1 12 3")
}

// stairs writes so many numbers, each one less than the one before it.
func stairs(first, many int) string {
	text := strings.Fields(fmt.Sprint(first))
	for k := 1; k < many; k++ {
		text = append(text, fmt.Sprint(first-k))
	}
	return strings.Join(text, " ")
}

// P10.7: strip, core and hooks
func TestStrip(t *testing.T) {
	s := made(t, "stack 4", "stack 2", "stack 1")
	tell(t, s, "hooks", "6 4 2 1 / 3 1 / 1",
		"core 2", "1 / 3", "core 3", "1 / 2", "core 4", "1 1 1 / 1", "core 5", "4 2 1 / 0", "core 6", "1 / 1", "core 1", "! 2", "core 7", "! 2", "core 0", "! 2", "core -2", "! 2",
		"strip 1", "! 2", "strip 7", "! 2", "strip -1125899906842624", "! 2", "strip 5", "! 10",
		"if strip 6", "1", "if strip 4", "3",
		"strip 2", "5", "hooks", hooksOf(t, []int{2, 2, 1}),
	)
	for k := 0; ; k++ {
		reply := s.Exec("strip 2")
		if reply == "! 10" {
			break
		}
		if reply != strconv.Itoa(3-2*k) {
			t.Error(reply)
		}
	}
	tell(t, s, "hooks", "1", "strip 2", "! 10", "strip 1", "! 2", "core 2", "1 / 0")
	// Until nothing is left: then there is nothing to strip, but wires are looked at.
	empty := made(t, "stack 2", "strip 2")
	tell(t, empty, "hooks", "-", "core 2", "- / 0", "strip 2", "! 10", "strip 1", "! 2", "audit", "good 2 0 0 0 0 1 0 3", "stack 3", "3", "core 3", "- / 1")
}

func hooksOf(t *testing.T, shape []int) string {
	t.Helper()
	hooks, _ := blocks.Hooks(shape)
	rows := make([]string, len(hooks))
	for k, row := range hooks {
		rows[k] = strings.Trim(fmt.Sprint(row), "[]")
	}
	return strings.Join(rows, " / ")
}

// P10.7: all small shapes, beside layer 4
func TestShapes(t *testing.T) {
	for a := 1; a <= 6; a++ {
		for b := 0; b <= a; b++ {
			for c := 0; c <= b; c++ {
				s, shape := salon.New(), []int{}
				for _, row := range []int{a, b, c} {
					if row > 0 {
						shape = append(shape, row)
						tell(t, s, "stack "+strconv.Itoa(row), strconv.Itoa(sum(shape)))
					}
				}
				tell(t, s, "hooks", hooksOf(t, shape))
				for wires := 2; wires <= 6; wires++ {
					checkWires(t, s, shape, wires)
				}
			}
		}
	}
}

func checkWires(t *testing.T, s *salon.Salon, shape []int, wires int) {
	t.Helper()
	core, strips, _ := blocks.Core(shape, wires)
	text := strings.Trim(fmt.Sprint(core), "[]")
	if len(core) == 0 {
		text = "-"
	}
	tell(t, s, fmt.Sprint("core ", wires), fmt.Sprint(text, " / ", strips))
	left, _ := blocks.Strips(shape, wires)
	if len(left) == 0 {
		tell(t, s, fmt.Sprint("strip ", wires), "! 10")
		return
	}
	after := s.Copy()
	tell(t, after, fmt.Sprint("strip ", wires), fmt.Sprint(sum(shape)-wires))
	if len(left[0]) > 0 {
		tell(t, after, "hooks", hooksOf(t, left[0]))
	}
	tell(t, s, "hooks", hooksOf(t, shape))
}

func sum(numbers []int) int {
	total := 0
	for _, number := range numbers {
		total += number
	}
	return total
}
