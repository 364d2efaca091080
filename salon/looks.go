package salon

import (
	"strconv"
	"strings"

	"cloche/api"
	"cloche/blocks"
	"cloche/discs"
	"cloche/fits"
	"cloche/mesh"
	"cloche/tones"
	"cloche/visits"
	"cloche/waves"
)

const (
	shownBeads = 40
	meshKnots  = 8
	maxTerm    = 10 // of the two numbers of a chance
)

// The commands that only look.
type (
	largestPairs struct{}
	startingHats struct{}
	showBeads    struct{}
	findCore     struct{ wires int }
	showHooks    struct{}
	findRoot     struct{}
	findLasting  struct{ gains []int }
	countWaves   struct{ n int }
	findTones    struct{ frame []int }
	findChance   struct {
		chance string
		knots  []int
	}
	audit  struct{}
	whatIf struct{ line string }
)

func (c largestPairs) look(s *Salon) string {
	r := s.room
	refuseIf(len(r.hats) == 0, api.ErrNone)
	var pairs []string
	for _, pair := range must(visits.Largest(r.shop)) {
		pairs = append(pairs, r.hats[pair.A].Name+"+"+r.hats[pair.B].Name)
	}
	return orDash(strings.Join(pairs, " "))
}

func (c startingHats) look(s *Salon) string {
	refuseIf(len(s.room.hats) == 0, api.ErrNone)
	return s.room.listed(must(visits.Starts(s.room.shop)))
}

func (c showBeads) look(s *Salon) string {
	return s.room.beads[:min(len(s.room.beads), shownBeads)]
}

func (c findCore) look(s *Salon) string {
	core, strips, errno := blocks.Core(s.room.rows, c.wires)
	refuseIf(errno != api.OK, errno)
	return orDash(spaced(core)) + " / " + strconv.Itoa(strips)
}

func (c showHooks) look(s *Salon) string {
	var rows []string
	for _, row := range must(blocks.Hooks(s.room.rows)) {
		rows = append(rows, spaced(row))
	}
	return orDash(strings.Join(rows, " / "))
}

func (c findRoot) look(s *Salon) string {
	root, turns, errno := discs.Root(s.room.quad)
	refuseIf(errno != api.OK, errno)
	return spaced(root[:]) + " / " + strconv.Itoa(turns)
}

func (c findLasting) look(*Salon) string {
	n := 2
	if len(c.gains) > n*n {
		n = 3
	}
	table := make([][]int, n)
	for i := range table {
		table[i] = c.gains[i*n : (i+1)*n : (i+1)*n]
	}
	var mixtures []string
	for _, mixture := range must(fits.Lasting(table)) {
		mixtures = append(mixtures, parts(mixture))
	}
	return orDash(strings.Join(mixtures, " / "))
}

func (c countWaves) look(*Salon) string { return strconv.Itoa(must(waves.Count(c.n))) }

func (c findTones) look(*Salon) string { return spaced(must(tones.Tones(c.frame))) }

func (c findChance) look(*Salon) string {
	num, den, ok := quotientOf(c.chance)
	refuseIf(!ok, api.ErrForm)
	var threads []api.Pair
	for k := 0; k < len(c.knots); k += 2 {
		threads = append(threads, api.Pair{A: c.knots[k], B: c.knots[k+1]})
	}
	count := must(mesh.Count(meshKnots, threads, 0, 1))
	refuseIf(den == 0, api.ErrArg)
	num, den = lowest(num, den)
	chance := must(mesh.Chance(count, api.Ratio{Num: num, Den: den}))
	return fraction(chance.Num, chance.Den)
}

func (c audit) look(s *Salon) string {
	a := s.Audit()
	verdict := "bad "
	if a.Good {
		verdict = "good "
	}
	return verdict + spaced([]int{a.Commands, a.Hats, a.Count, a.Sold, a.Pairs, a.Beads, a.Blocks, a.Bend})
}

func (c whatIf) look(s *Salon) string { return s.draft().Exec(c.line) }

// quotientOf returns the two numbers of a chance, if the word is one.
func quotientOf(word string) (num, den int, ok bool) {
	left, right, _ := strings.Cut(word, "/")
	num, first := termOf(left)
	den, second := termOf(right)
	if !first || !second {
		return 0, 0, false
	}
	return num, den, true
}

func termOf(word string) (int, bool) {
	number, ok := numberOf(word)
	return number, ok && number >= 0 && number <= maxTerm
}

// parts writes the numbers of a mixture.
func parts(mixture api.Parts) string {
	words := make([]string, len(mixture.Nums))
	for i, num := range mixture.Nums {
		words[i] = fraction(num, mixture.Den)
	}
	return strings.Join(words, " ")
}
