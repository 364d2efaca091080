package salon

import (
	"strconv"

	"cloche/aloud"
	"cloche/api"
	"cloche/blocks"
	"cloche/discs"
	"cloche/veils"
	"cloche/visits"
)

// The commands of the first part. Each refuses with the errors in the order in which the
// chapter names them.
type (
	addHat struct {
		name  string
		count int
	}
	sellHats struct {
		name  string
		count int
	}
	pairHats    struct{ name, other string }
	readBeads   struct{}
	addBead     struct{ digit int }
	stackRow    struct{ blocks int }
	stripBlocks struct{ wires int }
	turnBend    struct{ i int }
	twistVeil   struct{ i, j int }
	gyrateVeil  struct{}
)

func (c addHat) change(r *room) string {
	refuseIf(r.indexOf(c.name) >= 0, api.ErrExists)
	refuseIf(c.count < 0 || c.count > api.MaxStock, api.ErrArg)
	refuseIf(len(r.hats) >= api.MaxHats, api.ErrFull)
	r.hats = append(r.hats, api.Hat{Name: c.name, Count: c.count})
	r.shop = append(r.shop, 0)
	return strconv.Itoa(len(r.hats))
}

func (c sellHats) change(r *room) string {
	hat := &r.hats[r.find(c.name)]
	refuseIf(c.count < 1, api.ErrArg)
	refuseIf(c.count > hat.Count, api.ErrRange)
	hat.Count -= c.count
	hat.Sold += c.count
	return strconv.Itoa(hat.Count)
}

func (c pairHats) change(r *room) string {
	one := r.find(c.name)
	other := r.find(c.other)
	refuseIf(one == other, api.ErrArg)
	refuseIf(has(r.shop[one], other), api.ErrExists)
	r.shop[one] |= 1 << other
	r.shop[other] |= 1 << one
	return r.listed(must(visits.Needed(r.shop)))
}

func (c readBeads) change(r *room) string {
	said := must(aloud.Say(r.beads))
	refuseIf(len(said) > api.MaxWord, api.ErrFull)
	r.beads = said
	return strconv.Itoa(len(r.beads))
}

func (c addBead) change(r *room) string {
	refuseIf(c.digit < 1 || c.digit > 9, api.ErrArg)
	refuseIf(len(r.beads) >= api.MaxWord, api.ErrFull)
	r.beads += strconv.Itoa(c.digit)
	return strconv.Itoa(len(r.beads))
}

func (c stackRow) change(r *room) string {
	r.rows = append(r.rows, c.blocks)
	refuseIf(!blocks.IsShape(r.rows), api.ErrArg)
	return strconv.Itoa(sum(r.rows))
}

func (c stripBlocks) change(r *room) string {
	left := must(blocks.Strips(r.rows, c.wires))
	refuseIf(len(left) == 0, api.ErrPlan)
	r.rows = left[0]
	return strconv.Itoa(sum(r.rows))
}

func (c turnBend) change(r *room) string {
	r.quad = must(discs.Turn(r.quad, c.i))
	return strconv.Itoa(r.quad[c.i])
}

func (c twistVeil) change(r *room) string {
	r.veil = must(veils.Turn(r.veil, c.i, c.j))
	return r.pairing()
}

func (c gyrateVeil) change(r *room) string {
	r.veil = must(veils.Gyrate(r.veil))
	return r.pairing()
}
