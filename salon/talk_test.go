package salon_test

import (
	"math/rand"
	"slices"
	"strconv"
	"strings"
	"testing"

	"cloche/api"
	"cloche/salon"
)

// tell gives lines to a salon, each followed by the reply that it must get.
func tell(t *testing.T, s *salon.Salon, talk ...string) {
	t.Helper()
	for k := 0; k+1 < len(talk); k += 2 {
		if reply := s.Exec(talk[k]); reply != talk[k+1] {
			t.Errorf("%q: %q instead of %q", talk[k], reply, talk[k+1])
		}
	}
}

// made returns the salon that some lines make, none of which is refused.
func made(t *testing.T, lines ...string) *salon.Salon {
	t.Helper()
	s := salon.New()
	for _, line := range lines {
		if reply := s.Exec(line); reply == "" || reply[0] == '?' || reply[0] == '!' {
			t.Fatalf("%q: %q", line, reply)
		}
	}
	return s
}

// times returns a line so many times.
func times(many int, line string) []string { return slices.Repeat([]string{line}, many) }

// all looks: what they reply is all that can be seen of a salon beside Book and Audit.
var looks = []string{
	"largest", "starts", "beads", "core 2", "core 3", "core 4", "core 5", "core 6", "hooks", "root", "audit",
	"if gyrate", "if read", "if twist 1 1", "if twist 1 2", "if twist 2 1", "if twist 2 2", "if strip 2", "if turn 0", "if turn 3",
	"if hat zzz 1", "if sell a 1000", "if sell b 1000", "if goes a b", "if goes c d",
}

// view is all that can be seen of a salon.
type view struct {
	book    []string
	audit   api.Audit
	hats    []api.Hat
	replies []string
}

func viewOf(s *salon.Salon) view {
	v := view{book: s.Book(), audit: s.Audit()}
	for _, name := range names {
		if hat, errno := s.Hat(name); errno == api.OK {
			v.hats = append(v.hats, hat)
		}
	}
	for _, line := range looks {
		v.replies = append(v.replies, s.Exec(line))
	}
	return v
}

func same(a, b view) bool {
	return slices.Equal(a.book, b.book) && a.audit == b.audit && slices.Equal(a.hats, b.hats) && slices.Equal(a.replies, b.replies)
}

// names are more than a salon can have hats.
var names = []string{"a", "b", "c", "d", "e", "cap", "toque", "beret", "cloche", "bowler", "fedora", "zzzzzzzz"}

// oddWords are words that are seldom what is asked for.
var oddWords = []string{"x", "Cap", "01", "-0", "+1", "1/2", "-", "~", "longnames", "1125899906842625", "-1125899906842624", "a1", "if", "read"}

// pick returns one of some words.
func pick(r *rand.Rand, words ...string) string { return words[r.Intn(len(words))] }

// someNumber returns a number from low to high.
func someNumber(r *rand.Rand, low, high int) string { return strconv.Itoa(low + r.Intn(high-low+1)) }

// someChange returns a command of the first part, that may well be refused.
func someChange(r *rand.Rand) string {
	name, other := pick(r, names...), pick(r, names...)
	switch r.Intn(12) {
	case 0:
		return "hat " + name + " " + someNumber(r, -1, 4)
	case 1:
		return "hat " + name + " " + someNumber(r, 990, 1002)
	case 2:
		return "sell " + name + " " + someNumber(r, 0, 3)
	case 3, 4:
		return "goes " + name + " " + other
	case 5:
		return "read"
	case 6:
		return "bead " + someNumber(r, 0, 10)
	case 7:
		return "stack " + someNumber(r, 0, 9)
	case 8:
		return "strip " + someNumber(r, 1, 7)
	case 9:
		return "turn " + someNumber(r, -1, 4)
	case 10:
		return "twist " + someNumber(r, 0, 3) + " " + someNumber(r, 0, 3)
	}
	return "gyrate"
}

// someNumbers returns so many numbers from low to high.
func someNumbers(r *rand.Rand, many, low, high int) string {
	words := make([]string, many)
	for k := range words {
		words[k] = someNumber(r, low, high)
	}
	return strings.Join(words, " ")
}

// someLook returns a command that only looks.
func someLook(r *rand.Rand) string {
	switch r.Intn(8) {
	case 0:
		return "lasts " + someNumbers(r, 4, -21, 21)
	case 1:
		return "lasts " + someNumbers(r, 9, -3, 3)
	case 2:
		return "waves " + someNumber(r, -1, 11)
	case 3:
		return "tones " + someNumbers(r, 1+r.Intn(3), 0, 7)
	case 4:
		return "chance " + someNumber(r, 0, 3) + "/" + someNumber(r, 0, 4) + " " + someNumbers(r, 2*(1+r.Intn(3)), 0, 2)
	case 5:
		return "core " + someNumber(r, 1, 7)
	}
	return pick(r, looks...)
}

// someLine returns a line of any kind.
func someLine(r *rand.Rand) string {
	line := someChange(r)
	if r.Intn(4) == 0 {
		line = someLook(r)
	}
	words := strings.Fields(line)
	switch at := r.Intn(len(words)); r.Intn(12) {
	case 0:
		words[at] = pick(r, oddWords...)
	case 1:
		words = slices.Delete(words, at, at+1)
	case 2:
		words = slices.Insert(words, at, pick(r, oddWords...))
	case 3:
		words = append(times(1+r.Intn(3), "if"), words...)
	case 4:
		return strings.Repeat(" ", r.Intn(3)) + strings.Join(words, "   ") + strings.Repeat(" ", r.Intn(300))
	case 5:
		return line + pick(r, "\t", "\n", "\r", "\x00", "\x7f", "\xff", "é", " \n ")
	}
	return strings.Join(words, " ")
}

// someSalon returns a salon to which many lines were given.
func someSalon(r *rand.Rand, many int) *salon.Salon {
	s := salon.New()
	for range many {
		s.Exec(someLine(r))
	}
	return s
}
