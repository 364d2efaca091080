package aloud_test

import (
	"strings"
	"testing"

	"cloche/aloud"
	"cloche/api"
)

// P2.3
func TestBefore(t *testing.T) {
	for word, want := range map[string]string{
		"312211":                     "111221",
		"22":                         "22",
		"11":                         "1",
		"13":                         "3",
		"31":                         "111",
		"99":                         "999999999",
		"9192":                       "111111111222222222",
		"1112":                       "12",
		"41":                         "1111",
		"112221":                     "12211",
		"1122334411":                 "12233344441",
		strings.Repeat("9192", 50):   strings.Repeat("111111111222222222", 50),
		strings.Repeat("1112", 50):   strings.Repeat("12", 50),
		strings.Repeat("121113", 33): strings.Repeat("213", 33),
	} {
		if w, e := aloud.Before(word); w != want || e != api.OK {
			t.Error(word, w, e)
		}
	}
	for _, word := range []string{"1", "9", "1111", "121", "111", "2212", "1222", "999999", strings.Repeat("1", 200), strings.Repeat("12", 99) + "3"} {
		if w, e := aloud.Before(word); w != "" || e != api.ErrPlan {
			t.Error(word, w, e)
		}
	}
}

// P2.3: what Before returns is found among all words, and there is just one.
func TestBeforeAmongAll(t *testing.T) {
	earlier := map[string]string{}
	for _, word := range allWords(3, 9) {
		said := read(word)
		if other, twice := earlier[said]; twice {
			t.Fatal(other, word, said)
		}
		earlier[said] = word
	}
	// Three runs of at most three digits make a word of at most nine.
	for _, word := range allWords(3, 6) {
		want, found := earlier[word]
		wantError := api.OK
		if !found {
			wantError = api.ErrPlan
		}
		if w, e := aloud.Before(word); w != want || e != wantError {
			t.Error(word, w, e, want)
		}
	}
}

// ageOf counts the days back, each found by trying the ways to cut a word
// into numbers and digits.
func ageOf(word string) int {
	earlier := ""
	for i := 0; i+1 < len(word); i += 2 {
		earlier += strings.Repeat(word[i+1:i+2], int(word[i]-'0'))
	}
	if len(word)%2 != 0 || read(earlier) != word {
		return 0
	}
	return 1 + ageOf(earlier)
}

// P2.3
func TestAge(t *testing.T) {
	for word, want := range map[string]int{
		"1":                        0,
		"2":                        0,
		"11":                       1,
		"312211":                   5,
		"222":                      0,
		"2222":                     0,
		"1222":                     0,
		"3122":                     1,
		"99":                       1,
		"13":                       1,
		"1113":                     2,
		"3113":                     3,
		strings.Repeat("9192", 50): 1, // read back to 900 digits, which were not said
		strings.Repeat("1", 200):   0,
	} {
		if n, e := aloud.Age(word); n != want || e != api.OK {
			t.Error(word, n, e)
		}
	}
	if n, e := aloud.Age("22"); n != 0 || e != api.ErrState {
		t.Error(n, e)
	}
	for _, word := range append(allWords(3, 8), randomWords(5, 300)...) {
		if word == "22" {
			continue
		}
		if n, e := aloud.Age(word); n != ageOf(word) || e != api.OK {
			t.Error(word, n, e)
		}
	}
	oldest := 0
	for _, word := range append(allWords(4, 3), "3", "11121", "312111") {
		if word == "22" {
			continue
		}
		young, _ := aloud.Age(word)
		for day := 1; day <= api.MaxDays; day++ {
			said, e := aloud.Days(word, day)
			if e != api.OK || len(said) > api.MaxWord {
				break
			}
			if n, e := aloud.Age(said); n != young+day || e != api.OK {
				t.Error(word, day, n, e)
			}
			oldest = max(oldest, young+day)
		}
	}
	if oldest < 15 {
		t.Error("no word was old:", oldest)
	}
}
