package salon_test

import (
	"strconv"
	"strings"
	"testing"

	"cloche/api"
	"cloche/salon"
)

// checkHat compares a hat.
func checkHat(t *testing.T, s *salon.Salon, name string, count, sold int) {
	t.Helper()
	if hat, errno := s.Hat(name); hat != (api.Hat{Name: name, Count: count, Sold: sold}) || errno != api.OK {
		t.Error(hat, errno, count, sold)
	}
}

// P10.4: hat
func TestAddHats(t *testing.T) {
	s := salon.New()
	for k, name := range names[:10] {
		tell(t, s, "hat "+name+" -1", "! 2", "hat "+name+" 1001", "! 2", "hat "+name+" "+strconv.Itoa(100*k), strconv.Itoa(k+1))
		tell(t, s, "hat "+name+" 1", "! 7", "hat "+name+" -1", "! 7", "hat "+name+" 1001", "! 7")
		checkHat(t, s, name, 100*k, 0)
	}
	tell(t, s, "hat bowler 1", "! 7", "hat fedora 1", "! 8", "hat fedora 0", "! 8", "hat fedora -1", "! 2", "hat fedora 1001", "! 2", "hat fedora 1125899906842624", "! 2")
	if a := s.Audit(); a.Hats != 10 || a.Count != 4500 || a.Sold != 0 || a.Commands != 10 {
		t.Error(a)
	}
	tell(t, salon.New(), "hat cap 1000", "1", "hat b 0", "2", "hat c 1", "3")
}

// P10.4: sell, and P10.13
func TestSellHats(t *testing.T) {
	s := made(t, "hat cap 5", "hat toque 1000", "hat beret 0")
	tell(t, s,
		"sell bowler 1", "! 6", "sell bowler 0", "! 6", "sell bowler 9999", "! 6",
		"sell cap 0", "! 2", "sell cap -1", "! 2", "sell cap -1125899906842624", "! 2",
		"sell cap 6", "! 4", "sell cap 1125899906842624", "! 4",
		"sell cap 2", "3", "sell cap 4", "! 4", "sell cap 3", "0", "sell cap 1", "! 4", "sell cap 0", "! 2",
		"sell toque 1000", "0", "sell beret 1", "! 4",
		"hat cap 5", "! 7",
	)
	checkHat(t, s, "cap", 0, 5)
	checkHat(t, s, "toque", 0, 1000)
	checkHat(t, s, "beret", 0, 0)
	if a := s.Audit(); a.Count != 0 || a.Sold != 1005 || a.Commands != 6 || !a.Good {
		t.Error(a)
	}
}

// P10.11: Hat
func TestHat(t *testing.T) {
	s := made(t, "hat cap 5", "hat toque 1", "sell cap 2")
	checkHat(t, s, "cap", 3, 2)
	checkHat(t, s, "toque", 1, 0)
	for _, name := range []string{"", "beret", "Cap", "cap ", " cap", "ca", "caps", "hat", strings.Repeat("a", 100000), "\x00", "1"} {
		if hat, errno := s.Hat(name); hat != (api.Hat{}) || errno != api.ErrNone {
			t.Error(name, hat, errno)
		}
	}
}

// P10.5: goes
func TestGoes(t *testing.T) {
	s := salon.New()
	tell(t, s, "goes a b", "! 6", "goes a a", "! 6", "hat a 1", "1", "goes a b", "! 6", "goes b a", "! 6", "goes b b", "! 6", "goes a a", "! 2")
	tell(t, s, "hat b 0", "2", "hat c 0", "3", "hat d 0", "4", "hat e 0", "5",
		"goes b a", "a b", "goes b a", "! 7", "goes a b", "! 7", "goes b b", "! 2",
		"goes b c", "b", // a row of three
		"goes c a", "-", // a ring of three
		"goes d a", "a b c d", // and one at it
		"goes d e", "d", // and one more: four of five, in several ways
	)
	if a := s.Audit(); a.Pairs != 5 || a.Commands != 10 {
		t.Error(a)
	}
}

// P10.5: largest and starts, and the order of the names, which is that of their coming
func TestLargestAndStarts(t *testing.T) {
	s := salon.New()
	tell(t, s, "largest", "! 6", "starts", "! 6",
		"hat toque 1", "1", "largest", "-", "starts", "toque",
		"hat cap 1", "2", "hat beret 1", "3", "largest", "-", "starts", "toque cap beret",
		"goes beret cap", "cap beret", "largest", "cap+beret", "starts", "toque",
		"hat a 1", "4", "goes a toque", "toque cap beret a", "largest", "toque+a cap+beret", "starts", "-",
		"goes cap toque", "toque cap beret a", "largest", "toque+a cap+beret", // toque+cap alone is no largest one
		"goes a cap", "toque cap beret a", "if goes beret toque", "toque cap beret a",
		"goes a beret", "toque cap beret a", "largest", "toque+cap beret+a", // the least of two
	)
}
