package salon

import (
	"testing"

	"cloche/api"
)

// P10.11: a bad audit. No commands lead to one (P10.12), so the rooms are spoiled here.
func TestBadAudit(t *testing.T) {
	for _, c := range []struct {
		spoil func(r *room)
		want  string
	}{
		{func(r *room) {}, "good 0 0 0 0 0 1 0 3"},
		{func(r *room) { r.quad = api.Quad{15, 2, 2, 3} }, "good 0 0 0 0 0 1 0 15"},
		{func(r *room) { r.quad = api.Quad{-2, 3, 6, 7} }, "bad 0 0 0 0 0 1 0 7"},
		{func(r *room) { r.quad = api.Quad{1, 2, 3, 4} }, "bad 0 0 0 0 0 1 0 4"},
		{func(r *room) { r.quad = api.Quad{} }, "bad 0 0 0 0 0 1 0 0"},
		{func(r *room) { r.rows = []int{2, 1} }, "good 0 0 0 0 0 1 3 3"},
		{func(r *room) { r.rows = []int{1, 2} }, "bad 0 0 0 0 0 1 3 3"},
		{func(r *room) { r.rows = []int{0} }, "bad 0 0 0 0 0 1 0 3"},
	} {
		s := New()
		c.spoil(&s.room)
		if reply := s.Exec("audit"); reply != c.want || s.Audit().Good != (c.want[0] == 'g') {
			t.Error(reply, c.want)
		}
	}
}
