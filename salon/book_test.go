package salon_test

import (
	"math/rand"
	"slices"
	"strings"
	"testing"

	"cloche/api"
	"cloche/salon"
)

// examples are the lines of the chapter, with their replies.
var examples = []string{
	"hat cloche 3", "1", "hat toque 2", "2", "hat cap 1", "3", "goes cloche toque", "cloche toque", "goes toque cap", "toque", "largest", "cloche+toque", "starts", "cloche cap",
	"sell toque 1", "1", "sell cap 2", "! 4", "read", "2", "read", "2", "bead 3", "3", "beads", "213", "stack 4", "4", "stack 2", "6", "stack 3", "! 2", "hooks", "5 4 2 1 / 2 1",
	"core 3", "4 2 / 0", "strip 2", "4", "turn 0", "15", "turn 3", "35", "root", "-1 2 2 3 / 2", "twist 1 1", "1 0 3 2 5 4", "gyrate", "5 2 1 4 3 0",
	"lasts 0 3 1 0", "3/4 1/4", "lasts 0 2 -1 -1 0 2 2 -1 0", "1/3 1/3 1/3", "waves 5", "16", "tones 6 5 3", "-2 -3 0 1", "chance 1/2 0 1 0 1", "3/4", "audit", "good 16 3 5 1 2 3 4 35",
}

// The examples of the chapter
func TestExamples(t *testing.T) {
	s := salon.New()
	tell(t, s, examples...)
	if a := s.Audit(); a != (api.Audit{Commands: 16, Hats: 3, Count: 5, Sold: 1, Pairs: 2, Beads: 3, Blocks: 4, Bend: 35, Good: true}) {
		t.Error(a)
	}
	want := []string{"hat cloche 3", "hat toque 2", "hat cap 1", "goes cloche toque", "goes toque cap", "sell toque 1", "read", "read", "bead 3", "stack 4", "stack 2", "strip 2", "turn 0", "turn 3", "twist 1 1", "gyrate"}
	if !slices.Equal(s.Book(), want) {
		t.Error(s.Book())
	}
}

// P10.11: if
func TestIf(t *testing.T) {
	s := salon.New()
	for k := 0; k < len(examples); k += 2 {
		before := viewOf(s)
		tell(t, s, "if "+examples[k], examples[k+1], "  if   if  "+examples[k]+" ", examples[k+1])
		if !same(before, viewOf(s)) {
			t.Error(examples[k])
		}
		tell(t, s, examples[k], examples[k+1])
	}
	tell(t, s, "if", "? line", " if  ", "? line", "if if", "? line", "if fly", "? line", "if hat", "? line", "if hat X 1", "? word 1", "if hat x y", "? word 2", "if if hat x y", "? word 2", "if sell cap 9", "! 4", "if if audit", "good 16 3 5 1 2 3 4 35")
}

// P10.11: the book, as words with one blank between
func TestBook(t *testing.T) {
	s := salon.New()
	s.Run("  hat   cap  1 \n hat cap 2\nbeads\n   read\nif read\nsell cap 5\nfly\nbead x\nhat toque 0\ngoes toque  cap\n")
	want := []string{"hat cap 1", "read", "hat toque 0", "goes toque cap"}
	if !slices.Equal(s.Book(), want) {
		t.Error(s.Book())
	}
	book := s.Book()
	for k := range book {
		book[k] = "gyrate"
	}
	_ = append(book[:1], "x", "y", "z")
	if !slices.Equal(s.Book(), want) {
		t.Error(s.Book())
	}
}

// P10.11: a book that is full
func TestFullBook(t *testing.T) {
	s := made(t, append([]string{"hat cap 1", "hat toque 1"}, times(1997, "turn 3")...)...)
	tell(t, s, "if hat a 1", "3", "if if gyrate", "1 0 5 4 3 2", "goes cap toque", "cap toque")
	full := viewOf(s)
	if len(full.book) != 2000 || !full.audit.Good || full.audit.Commands != 2000 {
		t.Error(len(full.book), full.audit)
	}
	for _, line := range []string{"hat a 1", "sell cap 1", "read", "bead 1", "stack 1", "turn 0", "twist 1 1", "gyrate"} {
		tell(t, s, line, "! 8", "if "+line, "! 8", "if if "+line, "! 8")
	}
	tell(t, s, "hat cap 1", "! 7", "hat a -1", "! 2", "sell a 1", "! 6", "sell cap 2", "! 4", "goes cap toque", "! 7", "bead 0", "! 2", "stack 0", "! 2", "strip 2", "! 10", "strip 1", "! 2", "turn 4", "! 2", "twist 1 2", "! 9", "twist 0 0", "! 2", "fly", "? line", "read 1", "? line", "bead x", "? word 1", "beads", "1", "largest", "cap+toque", "if beads", "1")
	if !same(full, viewOf(s)) {
		t.Error("changed")
	}
	again, line, errno := salon.Read(full.book)
	if line != 0 || errno != api.OK || !same(full, viewOf(again)) {
		t.Error(line, errno)
	}
	tell(t, again, "gyrate", "! 8")
	checkRead(t, append(full.book, "gyrate"), 2001, api.ErrFull)
	checkRead(t, append(full.book, "hat cap 1"), 2001, api.ErrExists)
	checkRead(t, append(full.book, "beads", "gyrate"), 2001, api.ErrForm)
}

// checkRead reads a book that is none.
func checkRead(t *testing.T, book []string, line int, want api.Errno) {
	t.Helper()
	if s, n, errno := salon.Read(book); s != nil || n != line || errno != want {
		t.Error(s, n, errno, line, want)
	}
}

// P10.11: Read
func TestRead(t *testing.T) {
	for _, book := range [][]string{nil, {}} {
		s, n, errno := salon.Read(book)
		if n != 0 || errno != api.OK || s == nil || !same(viewOf(s), viewOf(salon.New())) {
			t.Error(n, errno)
		}
	}
	s, n, errno := salon.Read([]string{"  hat  cap 1", "read ", "turn   0"})
	if n != 0 || errno != api.OK || !slices.Equal(s.Book(), []string{"hat cap 1", "read", "turn 0"}) {
		t.Error(n, errno)
	}
	tell(t, s, "audit", "good 3 1 1 0 0 2 0 15")
}

// P10.11: books with lines that have no place in one
func TestNoBooks(t *testing.T) {
	for _, line := range []string{
		"", "   ", strings.Repeat(" ", 400), "fly", "read 1", "bead x", "read\n", "read\nread", "read" + strings.Repeat(" ", 297),
		"if", "if read", "if hat a 1", "if fly", "if beads", " if read",
		"largest", "starts", "beads", "core 2", "core 1", "hooks", "root", "lasts 0 3 1 0", "lasts 21 0 0 0", "waves 5", "waves 11",
		"tones 0", "tones 1", "chance 1/2 0 1", "chance 1 0 1", "audit",
	} {
		checkRead(t, []string{line}, 1, api.ErrForm)
		checkRead(t, []string{"hat cap 1", "read", line, "hat cap 1", "fly"}, 3, api.ErrForm)
	}
	for line, want := range map[string]api.Errno{
		"hat cap 1": api.ErrExists, "hat a -1": api.ErrArg, "sell a 1": api.ErrNone, "sell cap 0": api.ErrArg, "sell cap 2": api.ErrRange, "goes cap a": api.ErrNone, "goes cap cap": api.ErrArg,
		"bead 0": api.ErrArg, "stack 0": api.ErrArg, "strip 2": api.ErrPlan, "strip 1": api.ErrArg, "turn 4": api.ErrArg, "twist 1 2": api.ErrState, "twist 0 0": api.ErrArg,
	} {
		checkRead(t, []string{"hat cap 1", "read", line}, 3, want)
		checkRead(t, []string{"hat cap 1", line, "fly", "hat cap 1"}, 2, want)
	}
}

// P10.11: Run
func TestRun(t *testing.T) {
	for text, want := range map[string]string{
		"": "", "\n": "", "\n\n  \n": "", "   ": "", "read": "2\n", "read\n": "2\n", "\nread": "2\n", "read\n\n": "2\n", "read\nread\nread": "2\n2\n4\n",
		"read\n \nread\n  ": "2\n2\n", "fly\nsell a 1\nread x\n": "? line\n! 6\n? line\n", "read\r\nread": "? line\n2\n", "read\x00": "? line\n",
		"if read\nif if read\nread": "2\n2\n2\n", strings.Repeat(" ", 1000) + "\nread": "2\n", strings.Repeat(" ", 1000) + "read": "? line\n", " \t\n": "? line\n",
	} {
		if reply := salon.New().Run(text); reply != want {
			t.Errorf("%q: %q instead of %q", text, reply, want)
		}
	}
}

// P10.11: Run does what Exec does, line by line
func TestRunIsExec(t *testing.T) {
	r := rand.New(rand.NewSource(110))
	for range 40 {
		var lines []string
		one, other, want := salon.New(), salon.New(), ""
		for range 60 {
			line := strings.ReplaceAll(someLine(r), "\n", "")
			if r.Intn(8) == 0 {
				line = strings.Repeat(" ", r.Intn(3))
			}
			lines = append(lines, line)
			if reply := one.Exec(line); strings.Trim(line, " ") != "" {
				want += reply + "\n"
			}
		}
		if reply := other.Run(strings.Join(lines, "\n") + pick(r, "", "\n")); reply != want || !same(viewOf(one), viewOf(other)) {
			t.Errorf("%q: %q instead of %q", lines, reply, want)
		}
	}
}

// P10.11: a copy and its salon do not show what is done to the other one
func TestCopy(t *testing.T) {
	r := rand.New(rand.NewSource(111))
	for range 150 {
		s := someSalon(r, r.Intn(60))
		before := viewOf(s)
		twin := s.Copy()
		if !same(before, viewOf(twin)) {
			t.Error(before.book)
		}
		for _, pair := range [][2]*salon.Salon{{twin, s}, {s, twin}} {
			untouched := viewOf(pair[1])
			for range 25 {
				pair[0].Exec(someChange(r))
				if !same(untouched, viewOf(pair[1])) {
					t.Error(before.book, pair[0].Book())
				}
			}
		}
		// Both go on by turns, as two salons that were apart from the beginning.
		apart, _, _ := salon.Read(s.Book())
		for range 25 {
			twin.Exec(someChange(r))
			line := someLine(r)
			tell(t, s, line, apart.Exec(line))
		}
		if !same(viewOf(s), viewOf(apart)) {
			t.Error(s.Book())
		}
	}
}

// P10.11: a copy and its salon add to the same lists by turns, whatever room is left
// behind these
func TestCopyAddsApart(t *testing.T) {
	for size := range 9 {
		s := salon.New()
		for k := range size {
			s.Exec("stack 4")
			s.Exec("hat " + names[k] + " 1")
			s.Exec("goes " + names[k] + " a")
		}
		twin := s.Copy()
		for k, line := range []string{"stack 3", "stack 2", "stack 1"} {
			other := []string{"stack 1", "hat x 1", "hat y 2"}[k]
			tell(t, s, line, s.Exec("if "+line))
			tell(t, twin, other, twin.Exec("if "+other))
		}
		for _, one := range []*salon.Salon{s, twin} {
			again, n, errno := salon.Read(one.Book())
			if n != 0 || errno != api.OK || !same(viewOf(one), viewOf(again)) {
				t.Error(n, errno, one.Book())
			}
		}
		if len(s.Book()) != len(twin.Book()) || slices.Equal(s.Book(), twin.Book()) {
			t.Error(s.Book(), twin.Book())
		}
	}
}
