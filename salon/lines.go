package salon

import (
	"strconv"
	"strings"

	"cloche/api"
)

const (
	maxNumber = 1 << 50
	maxName   = 8
)

const badLine = "? line"

// order is a line that is understood.
type order struct {
	command any    // a change or a look
	text    string // the words of the line, with one blank between any two
}

// understood returns the order that a line gives, or the complaint that is its reply.
func understood(line string) (order, string) {
	if isBlank(line) || len(line) > api.MaxLine || strings.ContainsFunc(line, isStrange) {
		return order{}, badLine
	}
	words := strings.FieldsFunc(line, isSpace)
	kinds, ok := kindsOf(words[0], len(words)-1)
	if !ok {
		return order{}, badLine
	}
	var p parameters
	for k, kind := range kinds {
		if !p.add(kind, words[k+1]) {
			return order{}, "? word " + strconv.Itoa(k+1)
		}
	}
	return order{commandOf(words[0], p), strings.Join(words, " ")}, ""
}

func isSpace(r rune) bool { return r == ' ' }

// isStrange reports whether a rune has a byte that no line may have: any byte above 126
// is, or is part of, a rune above 126.
func isStrange(r rune) bool { return r < ' ' || r > '~' }

// isBlank reports whether a line has no words.
func isBlank(line string) bool { return strings.Trim(line, " ") == "" }

// parameters are those of a command, apart by their kinds, each in their order.
type parameters struct {
	names   []string
	numbers []int
	words   []string
}

// add adds a parameter, and reports whether it is of the kind that is asked for.
func (p *parameters) add(k kind, word string) bool {
	switch k {
	case aName:
		p.names = append(p.names, word)
		return isName(word)
	case aNumber:
		number, ok := numberOf(word)
		p.numbers = append(p.numbers, number)
		return ok
	}
	p.words = append(p.words, word)
	return true
}

func isName(word string) bool {
	isOther := func(r rune) bool { return r < 'a' || r > 'z' }
	return word != "" && len(word) <= maxName && !strings.ContainsFunc(word, isOther)
}

// numberOf returns the number that a word is, if it is one.
func numberOf(word string) (int, bool) {
	number, err := strconv.Atoi(word)
	// Each number has one way to be written; Atoi reads others, too, as 01, +1 and -0.
	if err != nil || strconv.Itoa(number) != word || number < -maxNumber || number > maxNumber {
		return 0, false
	}
	return number, true
}
