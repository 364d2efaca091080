package salon_test

import (
	"math/rand"
	"slices"
	"strings"
	"sync"
	"testing"

	"cloche/api"
	"cloche/salon"
)

// checkNone checks that a salon that is none says nothing.
func checkNone(t *testing.T, s *salon.Salon) {
	t.Helper()
	for _, line := range append([]string{"", " ", "fly", "hat cap 1", "read", "if read", "bead x", "\n", strings.Repeat("x", 400)}, looks...) {
		if reply := s.Exec(line); reply != "" {
			t.Errorf("%q: %q", line, reply)
		}
		if reply := s.Run(line + "\n" + line); reply != "" {
			t.Errorf("%q: %q", line, reply)
		}
	}
	if book := s.Book(); len(book) != 0 {
		t.Error(book)
	}
	if hat, errno := s.Hat("cap"); hat != (api.Hat{}) || errno != api.ErrNil {
		t.Error(hat, errno)
	}
	if hat, errno := s.Hat(""); hat != (api.Hat{}) || errno != api.ErrNil {
		t.Error(hat, errno)
	}
	if a := s.Audit(); a != (api.Audit{}) {
		t.Error(a)
	}
	if s.Copy() != nil {
		t.Error("copied")
	}
}

// Rule 3 of the document, and P10.11: nil, and a salon that no function returned
func TestNone(t *testing.T) {
	checkNone(t, nil)
	checkNone(t, &salon.Salon{})
	checkNone(t, new(salon.Salon))
	var s salon.Salon
	checkNone(t, &s)
	checkNone(t, (&s).Copy())
}

// someText returns bytes of any kind.
func someText(r *rand.Rand) string {
	text := make([]byte, r.Intn(330))
	for k := range text {
		text[k] = byte(r.Intn(256))
		if r.Intn(3) > 0 {
			text[k] = "abehilrst 0123456789 -/"[r.Intn(23)]
		}
	}
	return string(text)
}

// P1 of the document: any lines, in any salon
func TestAnyText(t *testing.T) {
	r := rand.New(rand.NewSource(117))
	for range 30 {
		s := someSalon(r, 30)
		before := s.Book()
		for range 200 {
			text := someText(r)
			if reply := s.Exec(text); isDone(reply) && isLook(text) == (len(s.Book()) > len(before)) {
				t.Errorf("%q: %q", text, reply)
			}
			s.Run(text)
			s.Hat(text)
			if reply := salon.New().Run(text); (reply == "") != (strings.Trim(text, " \n") == "") {
				t.Errorf("%q: %q", text, reply)
			}
			before = s.Book()
		}
		book := slices.Repeat([]string{someText(r)}, 3)
		if again, n, errno := salon.Read(book); (errno == api.OK) != (n == 0) || (errno == api.OK) != (again != nil) {
			t.Errorf("%q: %d %d", book, n, errno)
		}
	}
}

// P2 of the document: the same lines get the same replies, alone or beside others
func TestBesideOthers(t *testing.T) {
	r := rand.New(rand.NewSource(118))
	var scripts, replies []string
	var views []view
	for range 24 {
		var lines []string
		for range 60 {
			lines = append(lines, someLine(r))
		}
		s := salon.New()
		script := strings.Join(lines, "\n")
		scripts = append(scripts, script)
		replies = append(replies, s.Run(script))
		views = append(views, viewOf(s))
	}
	var group sync.WaitGroup
	for worker := range 4 {
		group.Go(func() {
			for step := range scripts {
				k := (step*7 + worker) % len(scripts)
				s := salon.New()
				if reply := s.Run(scripts[k]); reply != replies[k] || !same(viewOf(s), views[k]) {
					t.Errorf("%q: %q instead of %q", scripts[k], reply, replies[k])
				}
			}
		})
	}
	group.Wait()
}

// P2 of the document: a salon and its copies, each beside the others
func TestCopiesBesideOthers(t *testing.T) {
	r := rand.New(rand.NewSource(119))
	s := someSalon(r, 150)
	var lines []string
	for range 80 {
		lines = append(lines, someLine(r))
	}
	script := strings.Join(lines, "\n")
	want := s.Copy().Run(script)
	copies := []*salon.Salon{s, s.Copy(), s.Copy(), s.Copy().Copy()}
	var group sync.WaitGroup
	for _, twin := range copies {
		group.Go(func() {
			if reply := twin.Run(script); reply != want {
				t.Errorf("%q instead of %q", reply, want)
			}
		})
	}
	group.Wait()
	for _, twin := range copies[1:] {
		if !same(viewOf(s), viewOf(twin)) {
			t.Error(twin.Book())
		}
	}
}

// Rule 4 of the document: Read neither changes nor keeps a book, and no book that was
// returned is that of the salon or of an other one.
func TestBooksAreNew(t *testing.T) {
	book := []string{"hat  cap 1", "read", "hat toque 2", "bead 3", "turn 0"}
	given := slices.Clone(book)
	s, _, errno := salon.Read(given)
	if errno != api.OK || !slices.Equal(given, book) {
		t.Error(errno, given)
	}
	want := viewOf(s)
	twin := s.Copy()
	for _, list := range [][]string{given, s.Book(), s.Book(), twin.Book()} {
		for k := range list[:cap(list)] {
			list[:cap(list)][k] = "gyrate"
		}
		if !same(want, viewOf(s)) || !same(want, viewOf(twin)) {
			t.Error(list)
		}
	}
	one, other := s.Book(), s.Book()
	one[0] = "x"
	if other[0] != "hat cap 1" {
		t.Error(other)
	}
}

// P1 of the document: what any line does ends, also in a salon that is full in all ways.
func TestFullSalon(t *testing.T) {
	s := salon.New()
	for k, name := range names[:10] {
		tell(t, s, "hat "+name+" 1000", []string{"1", "2", "3", "4", "5", "6", "7", "8", "9", "10"}[k])
	}
	for k, name := range names[:10] {
		for _, other := range names[:k] {
			s.Exec("goes " + name + " " + other)
		}
	}
	for range 300 {
		s.Exec("bead 9")
		s.Exec("bead 8")
	}
	for range 12 {
		s.Exec("stack 3")
	}
	for k := range 200 {
		s.Exec([]string{"turn 0", "turn 1", "turn 2", "turn 3"}[k%4])
	}
	tell(t, s, "starts", "-", "largest", "a+b c+d e+cap toque+beret cloche+bowler", "goes a b", "! 7", "bead 1", "! 8", "stack 3", "! 2")
	if a := s.Audit(); !a.Good || a.Pairs != 45 || a.Count != 10000 || a.Beads != 200 || a.Blocks != 36 || a.Bend < 1<<38 {
		t.Error(a)
	}
	for range 1500 {
		s.Exec("gyrate")
		tell(t, s, "if goes a b", "! 7")
	}
	again, n, errno := salon.Read(s.Book())
	if n != 0 || errno != api.OK || !same(viewOf(again), viewOf(s)) {
		t.Error(n, errno)
	}
}
