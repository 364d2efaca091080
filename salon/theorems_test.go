package salon_test

import (
	"math/rand"
	"slices"
	"strconv"
	"strings"
	"testing"

	"cloche/api"
	"cloche/salon"
)

// isDone reports whether a reply is of a command that was executed and not refused.
func isDone(reply string) bool {
	return reply != "" && !strings.HasPrefix(reply, "?") && !strings.HasPrefix(reply, "!")
}

// isLook reports whether a line only looks, or begins with if.
func isLook(line string) bool {
	words := strings.Fields(line)
	first := []string{"largest", "starts", "beads", "core", "hooks", "root", "lasts", "waves", "tones", "chance", "audit", "if"}
	return len(words) > 0 && slices.Contains(first, words[0])
}

// P10.12 and P10.13: audits are good, and all hats that were added are there or sold
func TestGoodAudits(t *testing.T) {
	r := rand.New(rand.NewSource(112))
	hats, sales := 0, 0
	for range 60 {
		s, added, sold, pairs := salon.New(), map[string]int{}, 0, 0
		for range 200 {
			line := someLine(r)
			words := strings.Fields(line)
			if isDone(s.Exec(line)) {
				switch words[0] {
				case "hat":
					added[words[1]], _ = strconv.Atoi(words[2])
				case "sell":
					number, _ := strconv.Atoi(words[2])
					sold += number
				case "goes":
					pairs++
				}
			}
			checkStock(t, s, added, sold, pairs)
		}
		hats += len(added)
		sales += sold
	}
	if hats < 200 || sales < 100 {
		t.Error("too few hats:", hats, sales)
	}
}

func checkStock(t *testing.T, s *salon.Salon, added map[string]int, sold, pairs int) {
	t.Helper()
	a := s.Audit()
	if !a.Good || a.Hats != len(added) || a.Pairs != pairs || a.Sold != sold || a.Commands != len(s.Book()) {
		t.Error(a, added, sold, pairs)
	}
	whole := 0
	for name, count := range added {
		hat, errno := s.Hat(name)
		if errno != api.OK || hat.Name != name || hat.Count+hat.Sold != count || hat.Count < 0 || hat.Sold < 0 {
			t.Error(hat, errno, count)
		}
		whole += count
	}
	if a.Count+a.Sold != whole {
		t.Error(a, added)
	}
}

// P10.14: six gyrations, after whatever was done
func TestSixGyrations(t *testing.T) {
	r := rand.New(rand.NewSource(113))
	for range 40 {
		s := someSalon(r, 50)
		pairing := s.Exec("gyrate")
		first := pairing
		for range 6 {
			pairing = gone(pairing)
			tell(t, s, "gyrate", pairing)
		}
		if pairing != first {
			t.Error(pairing, first)
		}
	}
}

// P10.15: a book that is read again
func TestBooksReadAgain(t *testing.T) {
	r := rand.New(rand.NewSource(114))
	for range 60 {
		s := someSalon(r, r.Intn(250))
		book := s.Book()
		again, n, errno := salon.Read(book)
		if n != 0 || errno != api.OK || !same(viewOf(s), viewOf(again)) {
			t.Fatal(n, errno, book)
		}
		for range 50 {
			line := someLine(r)
			tell(t, again, line, s.Exec(line))
		}
		if !same(viewOf(s), viewOf(again)) {
			t.Error(book)
		}
	}
}

// P10.16: what is refused, what only looks and what begins with if changes nothing; all
// else is added to the book
func TestNothingChanges(t *testing.T) {
	r := rand.New(rand.NewSource(115))
	for range 30 {
		s := salon.New()
		for range 100 {
			line := someLine(r)
			before := viewOf(s)
			reply := s.Exec(line)
			after := viewOf(s)
			if !isDone(reply) || isLook(line) {
				if !same(before, after) {
					t.Errorf("%q: %v", line, before.book)
				}
				continue
			}
			if want := append(before.book, strings.Join(strings.Fields(line), " ")); !slices.Equal(after.book, want) {
				t.Errorf("%q: %q", line, after.book)
			}
		}
	}
}

// P10.16: if and a command reply what the command then gets
func TestWhatIf(t *testing.T) {
	r := rand.New(rand.NewSource(116))
	for range 40 {
		s := salon.New()
		for range 150 {
			line := someLine(r)
			if len(line) > 290 || strings.Trim(line, " ") == "" {
				continue
			}
			guess, deep := s.Exec("if "+line), s.Exec("  if if "+line)
			if reply := s.Exec(line); guess != reply || deep != reply {
				t.Errorf("%q: %q, %q, %q", line, guess, deep, reply)
			}
		}
	}
}
