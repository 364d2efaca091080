package salon_test

import (
	"slices"
	"strconv"
	"strings"
	"testing"

	"cloche/salon"
)

// P10.1: a new salon
func TestNew(t *testing.T) {
	s := salon.New()
	if a := s.Audit(); a.Commands != 0 || a.Hats != 0 || a.Count != 0 || a.Sold != 0 || a.Pairs != 0 || a.Beads != 1 || a.Blocks != 0 || a.Bend != 3 || !a.Good {
		t.Error(a)
	}
	if book := s.Book(); len(book) != 0 {
		t.Error(book)
	}
	tell(t, s,
		"audit", "good 0 0 0 0 0 1 0 3",
		"beads", "1",
		"hooks", "-",
		"core 2", "- / 0",
		"root", "-1 2 2 3 / 0",
		"largest", "! 6",
		"starts", "! 6",
		"if turn 3", "3",
		"if turn 0", "15",
	)
	// The heights of the veil 1 0 0 / 0 1 0 / 0 0 1 are free at 1 1 and 2 2.
	tell(t, s, "if twist 1 2", "! 9", "if twist 2 1", "! 9", "if twist 1 1", "1 0 3 2 5 4", "if twist 2 2", "5 2 1 4 3 0", "gyrate", "1 0 5 4 3 2")
}

// P10.2: words, and blanks around them
func TestBlanks(t *testing.T) {
	s := salon.New()
	for _, line := range []string{"", " ", "     ", strings.Repeat(" ", 300), strings.Repeat(" ", 301), strings.Repeat(" ", 100000)} {
		if reply := s.Exec(line); reply != "" {
			t.Errorf("%q: %q", line, reply)
		}
	}
	tell(t, s, " hat cap 1", "1", "hat toque 1 ", "2", "   hat    beret   1   ", "3", "hat  a  2", "4")
	if want := []string{"hat cap 1", "hat toque 1", "hat beret 1", "hat a 2"}; !slices.Equal(s.Book(), want) {
		t.Error(s.Book())
	}
}

// P10.2: lines that are too long
func TestLongLines(t *testing.T) {
	s := salon.New()
	fill := func(line string, size int) string { return line + strings.Repeat(" ", size-len(line)) }
	tell(t, s,
		fill("bead 2", 299), "2",
		fill("bead 2", 300), "3",
		fill("bead 2", 301), "? line",
		strings.Repeat(" ", 294)+"bead 2", "4",
		strings.Repeat(" ", 295)+"bead 2", "? line",
		fill("if bead 2", 300), "5",
		fill("if bead 2", 301), "? line",
		fill("chance 1/1 0 1", 301), "? line",
		"chance "+strings.Repeat("x", 289)+" 0 1", "! 5",
		"chance "+strings.Repeat("x", 290)+" 0 1", "? line",
		strings.Repeat("if ", 98)+"beads", "1222",
		strings.Repeat("if ", 99)+"beads", "? line",
		fill("bead x", 301), "? line",
		strings.Repeat("x", 100000), "? line",
	)
}

// P10.2: bytes that no line has
func TestBytes(t *testing.T) {
	s := salon.New()
	for b := range 256 {
		text := string([]byte{byte(b)})
		want := "! 5" // a WORD that is no chance
		switch {
		case b < 32 || b > 126:
			want = "? line"
		case b == 32:
			want = "1"
		}
		tell(t, s, "chance 1/1"+strings.Repeat(text, 3)+" 0 1", want)
		if want == "? line" {
			tell(t, s, text, want, "read"+text, want, text+"read", want, " "+text+" ", want, "bead "+text, want)
		}
	}
	tell(t, s, "chance é 0 1", "? line", "chance \u00a0 0 1", "? line", "hat\u3000cap 1", "? line", "hat caé 1", "? line", "bead ٣", "? line", "beads\n", "? line", "beads\nbeads", "? line")
	if len(s.Book()) != 0 {
		t.Error(s.Book())
	}
}

// right has each command with parameters of the right kinds: a for a name, n for a
// number, w for any word.
var right = []struct{ line, kinds string }{
	{"hat cap 1", "an"}, {"sell cap 1", "an"}, {"goes cap toque", "aa"}, {"read", ""}, {"bead 1", "n"},
	{"stack 1", "n"}, {"strip 2", "n"}, {"turn 0", "n"}, {"twist 1 1", "nn"}, {"gyrate", ""},
	{"largest", ""}, {"starts", ""}, {"beads", ""}, {"core 2", "n"}, {"hooks", ""}, {"root", ""},
	{"lasts 0 1 2 3", "nnnn"}, {"lasts 0 1 2 3 4 5 6 7 8", "nnnnnnnnn"}, {"waves 3", "n"},
	{"tones 0", "n"}, {"tones 2 1", "nn"}, {"tones 0 0 0 0 0 0 0", "nnnnnnn"},
	{"chance 1/2 0 1", "wnn"}, {"chance 1/2 0 1 0 1", "wnnnn"}, {"chance 1/2" + strings.Repeat(" 0 1", 13), "w" + strings.Repeat("nn", 13)},
	{"audit", ""},
}

// P10.2: what is no command, and how many parameters each command takes
func TestNumberOfParameters(t *testing.T) {
	takes := map[string][]int{}
	for _, c := range right {
		name, _, _ := strings.Cut(c.line, " ")
		takes[name] = append(takes[name], len(c.kinds))
	}
	takes["tones"] = []int{1, 2, 3, 4, 5, 6, 7}
	takes["chance"] = []int{3, 5, 7, 9, 11, 13, 15, 17, 19, 21, 23, 25, 27}
	for name, many := range takes {
		for k := range 40 {
			for _, word := range []string{"1", "a", "X"} {
				line := name + strings.Repeat(" "+word, k)
				if reply := salon.New().Exec(line); (reply == "? line") == slices.Contains(many, k) {
					t.Errorf("%q: %q", line, reply)
				}
			}
		}
	}
	for _, line := range []string{"fly", "fly 1", "Hat cap 1", "HAT cap 1", "hats", "1", "-1", "hat,cap,1", "reads", "rea", "? line", "! 1", "if", "  if ", "if if", "if fly", "if if if", "if read 1", "\"read\"", "Read"} {
		tell(t, salon.New(), line, "? line")
	}
}

// P10.2: the first parameter that is not of its kind
func TestKinds(t *testing.T) {
	for _, c := range right {
		words := strings.Fields(c.line)
		for at, kind := range c.kinds {
			for _, word := range []string{"x", "1", "X", "x1", "-", "x/1"} {
				wrong := slices.Clone(words)
				for k := at; k < len(c.kinds); k++ {
					wrong[k+1] = word
				}
				want := 0
				for k := at; k < len(c.kinds) && want == 0; k++ {
					if isWrong := c.kinds[k] == 'a' && word != "x" || c.kinds[k] == 'n' && word != "1"; isWrong {
						want = k + 1
					}
				}
				line := strings.Join(wrong, " ")
				reply := salon.New().Exec(line)
				if want > 0 && reply != "? word "+strconv.Itoa(want) || want == 0 && strings.HasPrefix(reply, "?") {
					t.Errorf("%q: %q instead of %d (%c)", line, reply, want, kind)
				}
			}
		}
	}
	// The number of parameters comes before their kinds, and these before refusals.
	tell(t, salon.New(), "hat Cap", "? line", "hat Cap 1 2", "? line", "lasts x", "? line", "chance x y", "? line", "sell cap x", "? word 2", "if sell cap x", "? word 2", "if if sell Cap x", "? word 1", "chance x 0 y", "? word 3")
}

// P10.2: numbers and names
func TestNumbersAndNames(t *testing.T) {
	s := made(t, "hat cap 1")
	for _, word := range []string{"0", "-1", "4", "9", "10", "-10", "1000", "1125899906842624", "-1125899906842624", "1125899906842623", "999999999999999"} {
		if reply := s.Exec("sell cap " + word); reply != "! 2" && reply != "! 4" {
			t.Errorf("%q: %q", word, reply)
		}
	}
	for _, word := range []string{"00", "01", "-0", "-01", "+1", "+0", "--1", "-", "+", "1.", "1.0", ".1", "1e1", "0x1", "0b1", "0o1", "1_000", "1,000", "1-", "a", "1125899906842625", "-1125899906842625", "9223372036854775807", "-9223372036854775808", "9223372036854775808", "18446744073709551617", strings.Repeat("9", 200), "0" + strings.Repeat("0", 200)} {
		tell(t, s, "sell cap "+word, "? word 2", "waves "+word, "? word 1")
	}
	for _, word := range []string{"b", "z", "zzzzzzzz", "abcdefgh", "hat", "if", "audit"} {
		tell(t, s, "if hat "+word+" 1", "2")
	}
	for _, word := range []string{"abcdefghi", "zzzzzzzzzz", "A", "Cap", "caP", "cap1", "1", "-", "a-b", "a_b", "a.", "`", "{", strings.Repeat("a", 200)} {
		tell(t, s, "hat "+word+" 1", "? word 1", "sell "+word+" 1", "? word 1", "goes "+word+" cap", "? word 1", "goes cap "+word, "? word 2")
	}
	if s.Audit().Commands != 1 {
		t.Error(s.Book())
	}
}
