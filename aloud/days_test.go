package aloud_test

import (
	"strings"
	"testing"

	"cloche/aloud"
	"cloche/api"
)

// P2.2
func TestSay(t *testing.T) {
	for word, want := range map[string]string{
		"1":                    "11",
		"5":                    "15",
		"22":                   "22",
		"3113":                 "132113",
		"111221":               "312211",
		"11":                   "21",
		"1112":                 "3112",
		strings.Repeat("9", 9): "99",
		strings.Repeat("1", 9) + strings.Repeat("2", 9): "9192",
		strings.Repeat("12", 100):                       strings.Repeat("1112", 100),
	} {
		if w, e := aloud.Say(word); w != want || e != api.OK {
			t.Error(word, w, e)
		}
	}
	for _, word := range append(allWords(3, 7), randomWords(3, 600)...) {
		want, wantError := read(word), api.OK
		if want == "" {
			wantError = api.ErrRange
		}
		if w, e := aloud.Say(word); w != want || e != wantError {
			t.Error(word, w, e)
		}
	}
	for _, word := range []string{strings.Repeat("1", 10), strings.Repeat("9", 200), "12" + strings.Repeat("3", 10) + "4", strings.Repeat("3", 10) + "4", "4" + strings.Repeat("3", 11)} {
		if w, e := aloud.Say(word); w != "" || e != api.ErrRange {
			t.Error(word, w, e)
		}
	}
}

// readDays says a word for some days as the chapter describes it.
func readDays(word string, days int) (string, api.Errno) {
	for range days {
		word = read(word)
		if word == "" {
			return "", api.ErrRange
		}
		if len(word) > api.MaxSaid {
			return "", api.ErrFull
		}
	}
	return word, api.OK
}

// countOf counts the digits 1, 2 and 3.
func countOf(word string) [3]int {
	return [3]int{strings.Count(word, "1"), strings.Count(word, "2"), strings.Count(word, "3")}
}

// P2.2 and P2.5
func TestDays(t *testing.T) {
	for day, want := range []string{"1", "11", "21", "1211", "111221", "312211", "13112221", "1113213211", "31131211131221"} {
		if w, e := aloud.Days("1", day); w != want || e != api.OK {
			t.Error(day, w, e)
		}
		if n, e := aloud.Count("1", day); n != countOf(want) || e != api.OK {
			t.Error(day, n, e)
		}
	}
	for i, word := range append(allWords(3, 4), randomWords(4, 200)...) {
		days := i % 15
		want, wantError := readDays(word, days)
		if w, e := aloud.Days(word, days); w != want || e != wantError {
			t.Error(word, days, w, e)
		}
		if n, e := aloud.Count(word, days); n != countOf(want) || e != wantError {
			t.Error(word, days, n, e)
		}
	}
	if w, e := aloud.Days("22", api.MaxDays); w != "22" || e != api.OK {
		t.Error(w, e)
	}
	if n, e := aloud.Count("22", api.MaxDays); n != [3]int{0, 2, 0} || e != api.OK {
		t.Error(n, e)
	}
	// Sequence A005341 of the encyclopedia of integer sequences, of which day 0
	// is the first term.
	for day, digits := range map[int]int{38: 48410, 39: 63138, 40: 82350} {
		if w, e := aloud.Days("1", day); len(w) != digits || e != api.OK {
			t.Error(day, len(w), e)
		}
	}
}

// P2.5
func TestCount(t *testing.T) {
	for _, c := range []struct {
		word string
		days int
		want [3]int
	}{
		{"1", 0, [3]int{1, 0, 0}},
		{"1", 6, [3]int{4, 3, 1}},
		{"4", 0, [3]int{}},
		{"4", 1, [3]int{1, 0, 0}},
		{"987654", 0, [3]int{}},
		{"123456789", 0, [3]int{1, 1, 1}},
		{"3331", 0, [3]int{1, 0, 3}},
		{"3331", 1, [3]int{2, 0, 2}},
		{strings.Repeat("2", 10), 0, [3]int{0, 10, 0}},
	} {
		if n, e := aloud.Count(c.word, c.days); n != c.want || e != api.OK {
			t.Error(c, n, e)
		}
	}
}

// P2.2 and P2.5
func TestDaysErrors(t *testing.T) {
	long := strings.Repeat("1", 10)
	for _, c := range []struct {
		word string
		days int
		want api.Errno
	}{
		{"1", -1, api.ErrArg},
		{"1", 41, api.ErrArg},
		{"22", 41, api.ErrArg},
		{long, 41, api.ErrArg},
		{long, 0, api.OK},
		{long, 1, api.ErrRange},
		{long, 40, api.ErrRange},
		{strings.Repeat("12", 90) + long, 40, api.ErrRange},
		{strings.Repeat("9", 9), 39, api.OK},
		{strings.Repeat("9", 9), 40, api.ErrFull},
		{strings.Repeat("12", 100), 0, api.OK},
		{strings.Repeat("12", 100), 2, api.OK},
		{strings.Repeat("12", 100), 40, api.ErrFull},
		{"2112121333", 35, api.OK}, // just MaxSaid digits
		{"2112121333", 36, api.ErrFull},
		{"31121323113", 33, api.OK},
		{"1122313122", 34, api.OK},
		{"1122313122", 35, api.ErrFull}, // 100002 digits
		{"14332133413", 32, api.OK},
		{"14332133413", 33, api.ErrFull},
	} {
		w, e := aloud.Days(c.word, c.days)
		if e != c.want || (w == "") != (e != api.OK) {
			t.Error(c, len(w), e)
		}
		if n, e := aloud.Count(c.word, c.days); n != countOf(w) || e != c.want {
			t.Error(c, n, e)
		}
	}
	if w, _ := aloud.Days("2112121333", 35); len(w) != api.MaxSaid {
		t.Error(len(w))
	}
	for _, days := range someNumbers {
		want := api.OK
		if days < 0 || days > 40 {
			want = api.ErrArg
		}
		if w, e := aloud.Days("22", days); e != want || (w == "22") != (e == api.OK) {
			t.Error(days, w, e)
		}
		if n, e := aloud.Count("22", days); e != want || (n == [3]int{0, 2, 0}) != (e == api.OK) {
			t.Error(days, n, e)
		}
	}
}
