// Package discs is layer 1: four discs that touch each other, and all the
// discs that can be laid into their gaps. See shared/doc/01-discs.md.
package discs

import (
	"slices"
	"sort"

	"cloche/api"
)

// IsQuad reports whether four numbers are the bends of a quad.
func IsQuad(q api.Quad) bool {
	sum := 0
	squares := wide{}
	for _, bend := range q {
		if !inRange(bend) {
			return false
		}
		sum += bend
		squares = squares.plus(square(bend))
	}
	return sum > 0 && squares.plus(squares) == square(sum)
}

// Turn replaces the bend at i by twice the sum of the others less itself.
func Turn(q api.Quad, i int) (api.Quad, api.Errno) {
	return Turns(q, []int{i})
}

// Turns turns the bends that the list names, one after the other.
func Turns(q api.Quad, list []int) (api.Quad, api.Errno) {
	if !IsQuad(q) {
		return api.Quad{}, api.ErrArg
	}
	if len(list) > api.MaxTurns {
		return api.Quad{}, api.ErrLimit
	}
	t := table{q}
	if errno := each(list, t.turn); errno != api.OK {
		return api.Quad{}, errno
	}
	return t.quad, api.OK
}

// Root turns the greatest bend as long as this makes it less. It returns what
// is left, sorted, and the number of turns.
func Root(q api.Quad) (api.Quad, int, api.Errno) {
	if !IsQuad(q) {
		return api.Quad{}, 0, api.ErrArg
	}
	root, turns := rootOf(q)
	return root, turns, api.OK
}

// IsRoot reports whether four numbers are a root.
func IsRoot(q api.Quad) bool {
	return IsQuad(q) && slices.IsSorted(q[:]) && q[0] <= 0 && q[0]+q[1]+q[2] >= q[3]
}

// Roots returns all roots whose first bend is -n, in lexicographic order.
func Roots(n int) ([]api.Quad, api.Errno) {
	if n < 1 || n > api.MaxRoot {
		return nil, api.ErrArg
	}
	var roots []api.Quad
	// 2 m <= x <= y and x y = n n + m m leave no m with 3 m m > n n.
	for m := 0; 3*m*m <= n*n; m++ {
		product := n*n + m*m
		for x := max(1, 2*m); x*x <= product; x++ {
			if product%x == 0 {
				y := product / x
				roots = append(roots, api.Quad{-n, x + n, y + n, x + y + n - 2*m})
			}
		}
	}
	slices.SortFunc(roots, func(a, b api.Quad) int { return slices.Compare(a[:], b[:]) })
	return roots, api.OK
}

// Fourth returns the two bends that make a quad with three others, the lesser
// one first.
func Fourth(a, b, c int) (int, int, api.Errno) {
	if !isShort(a) || !isShort(b) || !isShort(c) {
		return 0, 0, api.ErrArg
	}
	// The equation of the bends, of degree two in the fourth one, has these
	// solutions.
	root, whole := wholeRoot(a*b + b*c + c*a)
	lesser, greater := a+b+c-2*root, a+b+c+2*root
	if !whole || !IsQuad(api.Quad{a, b, c, lesser}) || !IsQuad(api.Quad{a, b, c, greater}) {
		return 0, 0, api.ErrPlan
	}
	return lesser, greater, api.OK
}

// Discs returns the bends up to most of all discs that belong to the quad,
// ascending, each as often as it occurs.
func Discs(q api.Quad, most int) ([]int, api.Errno) {
	if !IsQuad(q) || most < 1 || most > api.MaxMost {
		return nil, api.ErrArg
	}
	root, _ := rootOf(q)
	if root[0] == 0 {
		return nil, api.ErrState
	}
	return bendsUpTo(root, most)
}

// Rests returns what the bends of all quads that are reached from this one
// leave modulo 24, ascending.
func Rests(q api.Quad) ([]int, api.Errno) {
	if !IsQuad(q) {
		return nil, api.ErrArg
	}
	var found [modulus]bool
	for _, reached := range reachedRests(q) {
		for _, r := range reached {
			found[r] = true
		}
	}
	var rests []int
	for r, there := range found {
		if there {
			rests = append(rests, r)
		}
	}
	return rests, api.OK
}

// Same reports whether two quads have the same Root.
func Same(a, b api.Quad) (bool, api.Errno) {
	first, _, errno := Root(a)
	if errno != api.OK {
		return false, errno
	}
	second, _, errno := Root(b)
	if errno != api.OK {
		return false, errno
	}
	return first == second, api.OK
}

// table holds the four discs while they are turned.
type table struct{ quad api.Quad }

func (t *table) turn(i int) api.Errno {
	if i < 0 || i >= len(t.quad) {
		return api.ErrArg
	}
	bend := opposite(t.quad, i)
	if !inRange(bend) {
		return api.ErrRange
	}
	t.quad[i] = bend
	return api.OK
}

// each passes the numbers of a list to turn, up to the first error.
func each(list []int, turn func(int) api.Errno) api.Errno {
	for _, i := range list {
		if errno := turn(i); errno != api.OK {
			return errno
		}
	}
	return api.OK
}

// opposite is the bend that a turn puts in the place of the one at i.
func opposite(q api.Quad, i int) int {
	others := q[0] + q[1] + q[2] + q[3] - q[i]
	return 2*others - q[i]
}

// rootOf does what Root does, for a quad. It ends because the sum of the bends
// falls with each turn and stays above 0.
func rootOf(q api.Quad) (api.Quad, int) {
	turns := 0
	for {
		i := greatest(q)
		bend := opposite(q, i)
		if bend >= q[i] {
			break
		}
		q[i] = bend
		turns++
	}
	slices.Sort(q[:])
	return q, turns
}

// greatest is the index of the greatest bend, the last one of several.
func greatest(q api.Quad) int {
	at := 0
	for i, bend := range q {
		if bend >= q[at] {
			at = i
		}
	}
	return at
}

// bendsUpTo does what Discs does, for a root whose first bend is below 0.
func bendsUpTo(root api.Quad, most int) ([]int, api.Errno) {
	p := pile{most: most}
	for _, bend := range root {
		p.lay(bend)
	}
	p.fill(root, -1)
	if len(p.bends) > api.MaxDiscs {
		return nil, api.ErrFull
	}
	slices.Sort(p.bends)
	return p.bends, api.OK
}

// pile gathers the bends of discs up to most. It takes one disc more than
// MaxDiscs, which tells that there are too many.
type pile struct {
	most  int
	bends []int
}

// lay adds a bend, and reports whether it did.
func (p *pile) lay(bend int) bool {
	if bend > p.most || len(p.bends) > api.MaxDiscs {
		return false
	}
	p.bends = append(p.bends, bend)
	return true
}

// fill lays the discs that come of further turns, if the bend at last was
// turned last (-1: none). In a list of turns that begins at a root, no bend is
// less than the one made before it, and from the second one on each is
// greater; so a list ends with the first bend above most.
func (p *pile) fill(q api.Quad, last int) {
	for i := range q {
		if i == last {
			continue
		}
		next := q
		next[i] = opposite(q, i)
		if p.lay(next[i]) {
			p.fill(next, i)
		}
	}
}

// modulus is what the bends of Rests are taken modulo.
const modulus = 24

// reachedRests returns the quads that are reached from q, modulo 24. A turn is
// as good modulo 24, so it need not keep the bends in their range.
func reachedRests(q api.Quad) []api.Quad {
	start := restOf(q)
	seen := map[api.Quad]bool{start: true}
	list := []api.Quad{start}
	for at := 0; at < len(list); at++ {
		for i := range q {
			next := list[at]
			next[i] = opposite(next, i)
			next = restOf(next)
			if !seen[next] {
				seen[next] = true
				list = append(list, next)
			}
		}
	}
	return list
}

func restOf(q api.Quad) api.Quad {
	for i, bend := range q {
		q[i] = (bend%modulus + modulus) % modulus
	}
	return q
}

func inRange(bend int) bool { return bend >= -api.MaxBend && bend <= api.MaxBend }

func isShort(bend int) bool { return bend >= -api.MaxShort && bend <= api.MaxShort }

// wholeRoot returns the number from 0 on whose square is n, and whether there
// is one, for an n that three short bends make.
func wholeRoot(n int) (int, bool) {
	if n < 0 {
		return 0, false
	}
	root := sort.Search(2*api.MaxShort, func(r int) bool { return r*r >= n })
	return root, root*root == n
}
