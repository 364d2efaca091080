package salon

import (
	"strings"

	"cloche/api"
)

// change is a command of the first part: it changes the room and returns its reply, or
// refuses.
type change interface{ change(r *room) string }

// look is a command that only looks: it returns its reply, or refuses.
type look interface{ look(s *Salon) string }

// kind is what a parameter must be.
type kind int

const (
	aName kind = iota
	aNumber
	aWord // any word
)

// kindsOf returns the kinds of the parameters of a command, if there is one of that
// name that takes so many.
func kindsOf(name string, many int) ([]kind, bool) {
	var kinds []kind
	switch name {
	case "read", "gyrate", "largest", "starts", "beads", "hooks", "root", "audit":
	case "bead", "stack", "strip", "turn", "core", "waves":
		kinds = []kind{aNumber}
	case "twist":
		kinds = []kind{aNumber, aNumber}
	case "hat", "sell":
		kinds = []kind{aName, aNumber}
	case "goes":
		kinds = []kind{aName, aName}
	case "lasts":
		return all(aNumber, many), many == 4 || many == 9
	case "tones":
		return all(aNumber, many), many >= 1 && many <= api.MaxFrame
	case "chance":
		threads := (many - 1) / 2
		return append([]kind{aWord}, all(aNumber, 2*threads)...), many == 1+2*threads && threads >= 1 && threads <= api.MaxThreads
	case "if":
		return all(aWord, many), many >= 1
	default:
		return nil, false
	}
	return kinds, len(kinds) == many
}

// all returns so many times the same kind.
func all(k kind, many int) []kind {
	var kinds []kind
	for range many {
		kinds = append(kinds, k)
	}
	return kinds
}

// commandOf returns the command of a name, with parameters of the kinds that it takes.
func commandOf(name string, p parameters) any {
	switch name {
	case "hat":
		return addHat{p.names[0], p.numbers[0]}
	case "sell":
		return sellHats{p.names[0], p.numbers[0]}
	case "goes":
		return pairHats{p.names[0], p.names[1]}
	case "read":
		return readBeads{}
	case "bead":
		return addBead{p.numbers[0]}
	case "stack":
		return stackRow{p.numbers[0]}
	case "strip":
		return stripBlocks{p.numbers[0]}
	case "turn":
		return turnBend{p.numbers[0]}
	case "twist":
		return twistVeil{p.numbers[0], p.numbers[1]}
	case "gyrate":
		return gyrateVeil{}
	}
	return lookOf(name, p)
}

// lookOf does what commandOf does, for the commands that only look.
func lookOf(name string, p parameters) any {
	switch name {
	case "largest":
		return largestPairs{}
	case "starts":
		return startingHats{}
	case "beads":
		return showBeads{}
	case "core":
		return findCore{p.numbers[0]}
	case "hooks":
		return showHooks{}
	case "root":
		return findRoot{}
	case "lasts":
		return findLasting{p.numbers}
	case "waves":
		return countWaves{p.numbers[0]}
	case "tones":
		return findTones{p.numbers}
	case "chance":
		return findChance{p.words[0], p.numbers}
	case "audit":
		return audit{}
	case "if":
		return whatIf{strings.Join(p.words, " ")}
	}
	return nil
}
