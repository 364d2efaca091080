package aloud_test

import (
	"math"
	"math/rand"
	"slices"
	"strconv"
	"strings"
	"testing"

	"cloche/aloud"
	"cloche/api"
)

// noWords are strings that are not words, each with its error.
var noWords = []struct {
	text string
	want api.Errno
}{
	{"", api.ErrForm},
	{"0", api.ErrForm},
	{"10", api.ErrForm},
	{"01", api.ErrForm},
	{"1 1", api.ErrForm},
	{"12a", api.ErrForm},
	{"1/", api.ErrForm},
	{"1:", api.ErrForm},
	{"-1", api.ErrForm},
	{"1\x00", api.ErrForm},
	{"1\xff", api.ErrForm},
	{"\xff", api.ErrForm},
	{"１", api.ErrForm},
	{"1\n", api.ErrForm},
	{strings.Repeat("1", 199) + "0", api.ErrForm},
	{strings.Repeat("0", 200), api.ErrForm},
	{strings.Repeat("１", 66), api.ErrForm},
	{strings.Repeat("１", 67), api.ErrLimit},
	{strings.Repeat("12", 100) + "1", api.ErrLimit},
	{strings.Repeat("0", 201), api.ErrLimit},
	{strings.Repeat("\xff", 300), api.ErrLimit},
	{strings.Repeat("1", 1<<20), api.ErrLimit},
}

// someNumbers are ints from one end to the other.
var someNumbers = []int{math.MinInt, math.MinInt + 1, -1 << 32, -100, -41, -2, -1, 0, 1, 2, 3, 7, 9, 10, 39, 40, 41, 48, 100, 200, 201, 1 << 32, 1<<32 + 1, math.MaxInt}

// allWords returns all words of 1 to most digits from 1 to digits.
func allWords(digits, most int) []string {
	var words []string
	level := []string{""}
	for range most {
		var longer []string
		for _, word := range level {
			for d := 1; d <= digits; d++ {
				longer = append(longer, word+strconv.Itoa(d))
			}
		}
		words = append(words, longer...)
		level = longer
	}
	return words
}

// randomWord returns a word with that many digits from 1 to digits.
func randomWord(r *rand.Rand, long, digits int) string {
	word := make([]byte, long)
	for i := range word {
		word[i] = byte('1' + r.Intn(digits))
	}
	return string(word)
}

// randomWords returns words of all lengths, with few and with many digits.
func randomWords(seed int64, n int) []string {
	r := rand.New(rand.NewSource(seed))
	var words []string
	for i := range n {
		words = append(words, randomWord(r, 1+r.Intn([]int{4, 20, 200}[i%3]), 1+r.Intn(9)))
	}
	return words
}

// cut cuts a word between any two digits that differ.
func cut(word string) []string {
	var parts []string
	start := 0
	for i := 1; i <= len(word); i++ {
		if i == len(word) || word[i] != word[i-1] {
			parts = append(parts, word[start:i])
			start = i
		}
	}
	return parts
}

// read says a word by its parts; it is "" if one is too long.
func read(word string) string {
	text := ""
	for _, part := range cut(word) {
		if len(part) > 9 {
			return ""
		}
		text += strconv.Itoa(len(part)) + part[:1]
	}
	return text
}

func pairsOf(word string) []api.Pair {
	var pairs []api.Pair
	for _, part := range cut(word) {
		pairs = append(pairs, api.Pair{A: len(part), B: int(part[0] - '0')})
	}
	return pairs
}

func longestOf(word string) int {
	longest := 0
	for _, part := range cut(word) {
		longest = max(longest, len(part))
	}
	return longest
}

// Types of the chapter.
func TestIsWord(t *testing.T) {
	for _, word := range append(allWords(9, 3), randomWords(1, 300)...) {
		if !aloud.IsWord(word) {
			t.Error(word)
		}
	}
	for _, word := range []string{"123456789", strings.Repeat("9", 200), strings.Repeat("1", 10)} {
		if !aloud.IsWord(word) {
			t.Error(word)
		}
	}
	for _, c := range noWords {
		if aloud.IsWord(c.text) {
			t.Errorf("%.20q is a word", c.text)
		}
	}
	for b := range 256 {
		if is := b >= '1' && b <= '9'; aloud.IsWord("2"+string([]byte{byte(b)})+"3") != is {
			t.Error(b)
		}
	}
}

// The functions with one word, with the errors of the word (before those of
// the days) and zero values beside them.
func TestNoWords(t *testing.T) {
	for _, c := range noWords {
		for _, days := range []int{0, 1, -1, 41} {
			if w, e := aloud.Days(c.text, days); w != "" || e != c.want {
				t.Errorf("Days %.20q %d: %.20q %d", c.text, days, w, e)
			}
			if n, e := aloud.Count(c.text, days); n != [3]int{} || e != c.want {
				t.Errorf("Count %.20q %d: %v %d", c.text, days, n, e)
			}
		}
		if l, e := aloud.Runs(c.text); len(l) != 0 || e != c.want {
			t.Errorf("Runs %.20q: %v %d", c.text, l, e)
		}
		if w, e := aloud.Say(c.text); w != "" || e != c.want {
			t.Errorf("Say %.20q: %.20q %d", c.text, w, e)
		}
		if w, e := aloud.Before(c.text); w != "" || e != c.want {
			t.Errorf("Before %.20q: %.20q %d", c.text, w, e)
		}
		if n, e := aloud.Age(c.text); n != 0 || e != c.want {
			t.Errorf("Age %.20q: %d %d", c.text, n, e)
		}
		if n, e := aloud.Longest(c.text); n != 0 || e != c.want {
			t.Errorf("Longest %.20q: %d %d", c.text, n, e)
		}
	}
}

// P2.1
func TestRuns(t *testing.T) {
	for word, want := range map[string][]api.Pair{
		"3113":                         {{A: 1, B: 3}, {A: 2, B: 1}, {A: 1, B: 3}},
		"1":                            {{A: 1, B: 1}},
		"99":                           {{A: 2, B: 9}},
		"1223":                         {{A: 1, B: 1}, {A: 2, B: 2}, {A: 1, B: 3}},
		strings.Repeat("7", 200):       {{A: 200, B: 7}},
		strings.Repeat("1", 12):        {{A: 12, B: 1}},
		"1" + strings.Repeat("2", 199): {{A: 1, B: 1}, {A: 199, B: 2}},
	} {
		if l, e := aloud.Runs(word); !slices.Equal(l, want) || e != api.OK {
			t.Error(word, l, e)
		}
	}
	for _, word := range append(allWords(3, 7), randomWords(2, 300)...) {
		if l, e := aloud.Runs(word); !slices.Equal(l, pairsOf(word)) || e != api.OK {
			t.Error(word, l, e)
		}
		if n, e := aloud.Longest(word); n != longestOf(word) || e != api.OK {
			t.Error(word, n, e)
		}
	}
	l, _ := aloud.Runs("3113")
	clear(l)
	if l, _ = aloud.Runs("3113"); l[0] != (api.Pair{A: 1, B: 3}) {
		t.Error("not new memory:", l)
	}
}

// P2.1
func TestLongest(t *testing.T) {
	for word, want := range map[string]int{"1": 1, "3113": 2, "3111322": 3, "1112": 3, "2111": 3, "22221114444": 4, "121212": 1, strings.Repeat("5", 200): 200} {
		if n, e := aloud.Longest(word); n != want || e != api.OK {
			t.Error(word, n, e)
		}
	}
}

// manyRuns is n runs of one digit each.
func manyRuns(n int) []api.Pair {
	runs := make([]api.Pair, n)
	for i := range runs {
		runs[i] = api.Pair{A: 1, B: 1 + i%2}
	}
	return runs
}

// P2.1
func TestOf(t *testing.T) {
	for _, c := range []struct {
		runs []api.Pair
		want string
	}{
		{[]api.Pair{{A: 1, B: 3}, {A: 2, B: 1}, {A: 1, B: 3}}, "3113"},
		{[]api.Pair{{A: 1, B: 1}}, "1"},
		{[]api.Pair{{A: 9, B: 9}}, "999999999"},
		{[]api.Pair{{A: 12, B: 1}, {A: 1, B: 2}}, "1111111111112"},
		{[]api.Pair{{A: 200, B: 9}}, strings.Repeat("9", 200)},
		{[]api.Pair{{A: 199, B: 4}, {A: 1, B: 5}}, strings.Repeat("4", 199) + "5"},
		{manyRuns(200), strings.Repeat("12", 100)},
	} {
		given := slices.Clone(c.runs)
		if w, e := aloud.Of(c.runs); w != c.want || e != api.OK || !aloud.IsWord(w) {
			t.Error(c, w, e)
		}
		if !slices.Equal(given, c.runs) {
			t.Error("the runs were changed:", given, c.runs)
		}
	}
}

// P2.1
func TestOfErrors(t *testing.T) {
	wrong := []api.Pair{{A: 0, B: 1}, {A: -1, B: 1}, {A: 201, B: 1}, {A: 1, B: 0}, {A: 1, B: -1}, {A: 1, B: 10}, {A: math.MaxInt, B: 1}, {A: 1, B: math.MinInt}, {A: math.MinInt, B: math.MaxInt}, {}}
	for _, run := range wrong {
		for _, runs := range [][]api.Pair{{run}, {{A: 2, B: 5}, run}, {run, {A: 2, B: 5}}, {{A: 200, B: 5}, {A: 200, B: 6}, run}} {
			if w, e := aloud.Of(runs); w != "" || e != api.ErrArg {
				t.Error(runs, w, e)
			}
		}
		if w, e := aloud.Of(append(manyRuns(200), run)); w != "" || e != api.ErrLimit {
			t.Error(run, w, e)
		}
	}
	for _, c := range []struct {
		runs []api.Pair
		want api.Errno
	}{
		{nil, api.ErrForm},
		{[]api.Pair{}, api.ErrForm},
		{manyRuns(201), api.ErrLimit},
		{make([]api.Pair, 201), api.ErrLimit},
		{make([]api.Pair, 200), api.ErrArg},
		{[]api.Pair{{A: 1, B: 1}, {A: 1, B: 1}}, api.ErrArg},
		{[]api.Pair{{A: 1, B: 1}, {A: 1, B: 2}, {A: 3, B: 2}}, api.ErrArg},
		{[]api.Pair{{A: 200, B: 2}, {A: 1, B: 2}}, api.ErrArg},
		{[]api.Pair{{A: 200, B: 1}, {A: 1, B: 2}}, api.ErrLimit},
		{[]api.Pair{{A: 101, B: 1}, {A: 100, B: 2}}, api.ErrLimit},
		{append(manyRuns(199), api.Pair{A: 2, B: 3}), api.ErrLimit},
	} {
		if w, e := aloud.Of(c.runs); w != "" || e != c.want {
			t.Error(c, w, e)
		}
	}
}
