package double

import (
	"slices"

	"afterglow/api"
)

// Put: P16.2.
func Put(head, prev uint64, n api.Twin) api.TwinEdit {
	return api.TwinEdit{Phase: api.TwKey, Head: head, Node: n, Prev: prev}
}

// Cut: P16.2.
func Cut(head, node uint64) api.TwinEdit {
	return api.TwinEdit{Phase: api.TwBehind, Cuts: true, Head: head, Node: api.Twin{At: node}}
}

// stands says whether there is a node at a place.
func stands(l []api.Twin, at uint64) bool {
	return slices.ContainsFunc(l, func(n api.Twin) bool { return n.At == at })
}

// change makes all steps of one who changes a list: none of them is a fault.
func (r *run) change(s api.TwinEdit) {
	c := change{TwinEdit: s, in: r}
on:
	c.step()
	if c.Phase < api.TwOver {
		goto on
	}
}

// Insert: P16.4.
func Insert(m api.Memory, head, prev uint64, n api.Twin) (api.Memory, int, api.Errno) {
	r, errno := tried(m, func(r *run) {
		l := r.list(head)
		must(prev == 0 || stands(l, prev), api.ErrNone)
		must(n.At != 0 && r.room(n.At), api.ErrArg)
		r.change(Put(head, prev, n))
	})
	return r.Memory, r.steps, errno
}

// Remove: P16.4.
func Remove(m api.Memory, head, node uint64) (api.Memory, int, api.Errno) {
	r, errno := tried(m, func(r *run) {
		must(stands(r.list(head), node), api.ErrNone)
		r.change(Cut(head, node))
	})
	return r.Memory, r.steps, errno
}
