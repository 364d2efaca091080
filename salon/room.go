package salon

import (
	"slices"
	"strings"

	"cloche/api"
	"cloche/veils"
)

// firstQuad is the quad of a new room, and the root of all that is made of it.
var firstQuad = api.Quad{-1, 2, 2, 3}

// room is what the commands change.
type room struct {
	hats  []api.Hat
	shop  []int // for each hat, the set of those that go with it
	beads string
	rows  []int // of blocks
	quad  api.Quad
	veil  [][]int
}

func newRoom() room {
	return room{
		beads: "1",
		quad:  firstQuad,
		veil:  [][]int{{1, 0, 0}, {0, 1, 0}, {0, 0, 1}},
	}
}

// copied returns a room that shares no memory with r.
func (r room) copied() room {
	r.hats = slices.Clone(r.hats)
	r.shop = slices.Clone(r.shop)
	r.rows = slices.Clone(r.rows)
	r.veil = slices.Clone(r.veil)
	for i, row := range r.veil {
		r.veil[i] = slices.Clone(row)
	}
	return r
}

// indexOf returns the index of the hat of a name, or -1.
func (r *room) indexOf(name string) int {
	return slices.IndexFunc(r.hats, func(h api.Hat) bool { return h.Name == name })
}

// find returns the index of the hat of a name, and refuses if there is none.
func (r *room) find(name string) int {
	at := r.indexOf(name)
	refuseIf(at < 0, api.ErrNone)
	return at
}

// listed writes the names of a set of hats, in the order in which they were added.
func (r *room) listed(set int) string {
	var names []string
	for at, hat := range r.hats {
		if has(set, at) {
			names = append(names, hat.Name)
		}
	}
	return orDash(strings.Join(names, " "))
}

func (r *room) pairing() string { return spaced(must(veils.Pairing(r.veil))) }

func has(set, at int) bool { return set>>at&1 == 1 }

func sum(numbers []int) int {
	total := 0
	for _, number := range numbers {
		total += number
	}
	return total
}
