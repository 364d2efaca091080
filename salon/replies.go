package salon

import (
	"strconv"
	"strings"
)

// spaced writes numbers with blanks between.
func spaced(numbers []int) string {
	words := make([]string, len(numbers))
	for i, number := range numbers {
		words[i] = strconv.Itoa(number)
	}
	return strings.Join(words, " ")
}

// orDash writes a list of nothing as a dash.
func orDash(list string) string {
	if list == "" {
		return "-"
	}
	return list
}

// fraction writes a number in lowest terms, for a den above 0.
func fraction(num, den int) string {
	num, den = lowest(num, den)
	if den == 1 {
		return strconv.Itoa(num)
	}
	return strconv.Itoa(num) + "/" + strconv.Itoa(den)
}

// lowest returns two numbers without their common divisors, if none is below 0 and den
// is above it.
func lowest(num, den int) (int, int) {
	common, rest := den, num
	for rest != 0 {
		common, rest = rest, common%rest
	}
	return num / common, den / common
}
