package aloud_test

import (
	"math/rand"
	"testing"

	"cloche/aloud"
	"cloche/api"
)

// theoremWords are the words of which the theorems are tested.
func theoremWords() []string {
	return append(append(allWords(3, 6), allWords(9, 2)...), randomWords(6, 400)...)
}

// P2.6
func TestSaidAndRead(t *testing.T) {
	said, earlier := 0, 0
	for _, word := range theoremWords() {
		runs, e := aloud.Runs(word)
		if again, f := aloud.Of(runs); again != word || e != api.OK || f != api.OK {
			t.Error(word, again, e, f)
		}
		if w, e := aloud.Say(word); e == api.OK && len(w) <= api.MaxWord {
			said++
			if b, f := aloud.Before(w); b != word || f != api.OK {
				t.Error(word, w, b, f)
			}
		}
		if b, e := aloud.Before(word); e == api.OK && len(b) <= api.MaxWord {
			earlier++
			if w, f := aloud.Say(b); w != word || f != api.OK {
				t.Error(word, b, w, f)
			}
		}
	}
	if said < 1000 || earlier < 100 {
		t.Error("few words:", said, earlier)
	}
}

// P2.7
func TestOneDayTwoDays(t *testing.T) {
	for _, word := range theoremWords() {
		for day := 1; day <= 8; day++ {
			w, e := aloud.Days(word, day)
			if e != api.OK {
				break
			}
			if longestOf(w) > 3 {
				t.Error(word, day, w)
			}
			for i := 0; day > 1 && i < len(w); i += 2 {
				if w[i] > '3' {
					t.Error(word, day, w)
				}
			}
		}
	}
}

// P2.8
func TestLastDigit(t *testing.T) {
	for _, word := range theoremWords() {
		for day := range 9 {
			if w, e := aloud.Days(word, day); e == api.OK && w[len(w)-1] != word[len(word)-1] {
				t.Error(word, day, w)
			}
		}
		runs, _ := aloud.Runs(word)
		if w, e := aloud.Say(word); e == api.OK && len(w) != 2*len(runs) {
			t.Error(word, w, runs)
		}
	}
}

// theoremPairs returns pairs of words that are short enough together.
func theoremPairs() [][2]string {
	var pairs [][2]string
	words := allWords(4, 2)
	for _, left := range words {
		for _, right := range words {
			pairs = append(pairs, [2]string{left, right})
		}
	}
	r := rand.New(rand.NewSource(7))
	for range 300 {
		digits := 2 + r.Intn(8)
		pairs = append(pairs, [2]string{randomWord(r, 1+r.Intn(30), digits), randomWord(r, 1+r.Intn(30), digits)})
	}
	return pairs
}

// touch reports whether on a day before the last one the last digit of left is
// the first digit of the word of right.
func touch(t *testing.T, left, right string, days int) bool {
	for day := range days {
		w, e := aloud.Days(right, day)
		if e != api.OK {
			t.Error(right, day, e)
		}
		if left[len(left)-1] == w[0] {
			return true
		}
	}
	return false
}

// P2.9
func TestParts(t *testing.T) {
	seen := map[bool]int{}
	for _, pair := range theoremPairs() {
		left, right := pair[0], pair[1]
		l, e := aloud.Say(left)
		r, f := aloud.Say(right)
		both, g := aloud.Say(left + right)
		if e|f|g == api.OK && (l+r == both) != (left[len(left)-1] != right[0]) {
			t.Error(left, right, both)
		}
		for _, days := range []int{0, 1, 2, 3, 4, 5, 10} {
			if ok, e := aloud.Apart(left, right, days); e == api.OK {
				seen[ok]++
				if ok == touch(t, left, right, days) {
					t.Error(left, right, days, ok)
				}
			}
		}
	}
	if seen[true] < 100 || seen[false] < 100 {
		t.Error("few pairs:", seen)
	}
}

// P2.10
func TestNoWordComesAgain(t *testing.T) {
	for _, word := range append(allWords(4, 4), randomWords(8, 200)...) {
		for day := 1; day <= 10; day++ {
			if w, e := aloud.Days(word, day); e == api.OK && (w == word) != (word == "22") {
				t.Error(word, day, w)
			}
		}
		if n, e := aloud.Age(word); (e == api.ErrState) != (word == "22") || n < 0 || n > 40 {
			t.Error(word, n, e)
		}
	}
}

// P2.11
func TestAdded(t *testing.T) {
	apart := 0
	for _, pair := range theoremPairs() {
		left, right := pair[0], pair[1]
		before := true
		for days := range 11 {
			ok, e := aloud.Apart(left, right, days)
			if e != api.OK {
				break
			}
			if ok && !before {
				t.Error(left, right, days, "true after false")
			}
			before = ok
			if !ok {
				continue
			}
			apart++
			l, _ := aloud.Count(left, days)
			r, _ := aloud.Count(right, days)
			sum := [3]int{l[0] + r[0], l[1] + r[1], l[2] + r[2]}
			if both, e := aloud.Count(left+right, days); both != sum || e != api.OK {
				t.Error(left, right, days, both, sum, e)
			}
		}
	}
	if apart < 100 {
		t.Error("few pairs:", apart)
	}
}
