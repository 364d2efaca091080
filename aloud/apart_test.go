package aloud_test

import (
	"math"
	"strings"
	"testing"

	"cloche/aloud"
	"cloche/api"
)

// apartByDays compares what Days returns, day by day.
func apartByDays(left, right string, days int) (bool, api.Errno) {
	for _, word := range []string{left, right, left + right} {
		if _, e := aloud.Days(word, days); e != api.OK {
			return false, e
		}
	}
	for day := range days + 1 {
		l, _ := aloud.Days(left, day)
		r, _ := aloud.Days(right, day)
		both, _ := aloud.Days(left+right, day)
		if l+r != both {
			return false, api.OK
		}
	}
	return true, api.OK
}

// P2.4
func TestApart(t *testing.T) {
	for _, c := range []struct {
		left, right string
		days        int
		want        bool
	}{
		{"4", "1", 10, true},
		{"4", "1", 35, true},
		{"1", "4", 0, true},
		{"1", "4", 1, true},
		{"1", "4", 2, false},
		{"2", "1", 2, true},
		{"2", "1", 3, false},
		{"1", "1", 0, true},
		{"1", "1", 1, false},
		{"1", "22", 40, true},
		{"22", "22", 0, true},
		{"22", "22", 1, false},
		{"2", "4", 3, true},
		{strings.Repeat("1", 10), "2", 0, true},
		{"11111", "111111", 0, true},
		{strings.Repeat("12", 50), strings.Repeat("12", 50), 3, true},
		{strings.Repeat("12", 50), strings.Repeat("21", 50), 3, false},
		{strings.Repeat("2", 199), "1", 0, true},
	} {
		if ok, e := aloud.Apart(c.left, c.right, c.days); ok != c.want || e != api.OK {
			t.Error(c, ok, e)
		}
	}
	words := append(allWords(4, 2), "22", "111", "311311", "1111111111", "41")
	for _, left := range words {
		for _, right := range words {
			for _, days := range []int{0, 1, 2, 3, 4, 8} {
				want, wantError := apartByDays(left, right, days)
				if ok, e := aloud.Apart(left, right, days); ok != want || e != wantError {
					t.Error(left, right, days, ok, e)
				}
			}
		}
	}
}

// P2.4
func TestApartErrors(t *testing.T) {
	ten := strings.Repeat("1", 10)
	many := strings.Repeat("12", 60)
	for _, c := range []struct {
		left, right string
		days        int
		want        api.Errno
	}{
		{"", "1", 41, api.ErrForm},
		{"1", "", 41, api.ErrForm},
		{"1", "x", 1, api.ErrForm},
		{"x", strings.Repeat("1", 201), 41, api.ErrForm},
		{strings.Repeat("x", 201), "x", 41, api.ErrLimit},
		{"1", strings.Repeat("x", 201), 41, api.ErrLimit},
		{"1", "2", 41, api.ErrArg},
		{"1", "2", -1, api.ErrArg},
		{many, many, 41, api.ErrArg},
		{ten, "2", -1, api.ErrArg},
		{many, many, 1, api.ErrLimit},
		{many, many, 0, api.ErrLimit},
		{strings.Repeat("1", 200), "2", 0, api.ErrLimit},
		{strings.Repeat("1", 200), "2", 1, api.ErrLimit},
		{"2", strings.Repeat("1", 200), 1, api.ErrLimit},
		{strings.Repeat("1", 199), "2", 1, api.ErrRange},
		{ten, "2", 1, api.ErrRange},
		{"2", ten, 1, api.ErrRange},
		{"11111", "111111", 1, api.ErrRange},
		{"11111", "11111", 0, api.OK},
		{"11111", "11111", 1, api.ErrRange},
		{"11111", "11111", 38, api.ErrRange},
		{"11111", "11111", 39, api.ErrFull}, // left alone comes first
		{"11111", "1111", 1, api.OK},
		{ten, many, 40, api.ErrRange},
		{many, ten, 40, api.ErrFull},
		{ten, "1" + many, 40, api.ErrRange},
		{many, "2", 40, api.ErrFull},
		{"2", many, 40, api.ErrFull},
		{"22", many, 40, api.ErrFull},
		{"1122313122", "22", 34, api.OK},
		{"1122313122", "22", 35, api.ErrFull},
		// Only both together are too long, though they differ from the first
		// day on.
		{"1", "1", 39, api.OK},
		{"1", "1", 40, api.ErrFull},
		{"1122", "2131", 34, api.OK},
		{"1122", "2131", 35, api.ErrFull},
	} {
		if ok, e := aloud.Apart(c.left, c.right, c.days); e != c.want || ok && e != api.OK {
			t.Error(c, ok, e)
		}
	}
	for _, days := range someNumbers {
		want := api.OK
		if days < 0 || days > 40 {
			want = api.ErrArg
		}
		if ok, e := aloud.Apart("1", "22", days); e != want || ok != (e == api.OK) {
			t.Error(days, ok, e)
		}
	}
	if ok, e := aloud.Apart("1", "2", math.MinInt); ok || e != api.ErrArg {
		t.Error(ok, e)
	}
	for _, c := range noWords {
		if ok, e := aloud.Apart(c.text, "x", 41); ok || e != c.want {
			t.Errorf("%.20q left: %v %d", c.text, ok, e)
		}
		if ok, e := aloud.Apart("1", c.text, 41); ok || e != c.want {
			t.Errorf("%.20q right: %v %d", c.text, ok, e)
		}
	}
}
