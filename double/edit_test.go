package double_test

import (
	"slices"
	"testing"

	"afterglow/api"
	"afterglow/double"
)

// place is where a node stands in a list, or -1.
func place(l []api.Twin, at uint64) int {
	return slices.IndexFunc(l, func(n api.Twin) bool { return n.At == at })
}

// linked is m with a list laid anew from a head on: all else stays, what the nodes that are no longer in it hold, too.
func linked(m api.Memory, head uint64, l []api.Twin) api.Memory {
	m = clone(m)
	at := func(i int) uint64 {
		if i < 0 || i >= len(l) {
			return 0
		}
		return l[i].At
	}
	m.Words[head], m.Words[head+1] = at(0), at(len(l)-1)
	for i, n := range l {
		copy(m.Words[n.At:], []uint64{n.Key, n.Value, at(i + 1), at(i - 1)})
	}
	return m
}

// room says whether there is room for a node at a place: such words are gone over one by one.
func room(m api.Memory, head, at uint64) bool {
	p := plainOf(m)
	for behind := range uint64(4) {
		w := at + behind
		if _, is := p.held(w); !is || at == 0 || w == head || w == head+1 {
			return false
		}
		for _, n := range plainNodes(m, head) {
			if w >= n.At && w < n.At+4 {
				return false
			}
		}
	}
	return true
}

// mustInsert fails unless a node is inserted as told, or the error is the one that comes first.
func mustInsert(t *testing.T, m api.Memory, head, prev uint64, n api.Twin) (api.Memory, api.Errno) {
	t.Helper()
	l := plainNodes(m, head)
	want, steps, errno := api.Memory{}, 0, api.OK
	switch at := place(l, prev); {
	case prev != 0 && at < 0:
		errno = api.ErrNone
	case !room(m, head, n.At):
		errno = api.ErrArg
	default:
		want, steps = linked(m, head, slices.Insert(slices.Clone(l), at+1, n)), 7
	}
	is, many, e := double.Insert(m, head, prev, n)
	if e != errno || !same(is, want) || many != steps {
		t.Fatalf("Insert(%v, %d, %d, %v): %v, %d, %d, not %v, %d, %d", m, head, prev, n, is, many, e, want, steps, errno)
	}
	return is, e
}

// mustRemove fails unless a node is removed as told, or there was none.
func mustRemove(t *testing.T, m api.Memory, head, node uint64) (api.Memory, api.Errno) {
	t.Helper()
	l := plainNodes(m, head)
	want, steps, errno := api.Memory{}, 0, api.ErrNone
	if at := place(l, node); at >= 0 {
		want, steps, errno = linked(m, head, slices.Delete(slices.Clone(l), at, at+1)), 4, api.OK
	}
	is, many, e := double.Remove(m, head, node)
	if e != errno || !same(is, want) || many != steps {
		t.Fatalf("Remove(%v, %d, %d): %v, %d, %d, not %v, %d, %d", m, head, node, is, many, e, want, steps, errno)
	}
	return is, e
}

// lists are some, with heads, in memories of which some words are free.
func lists() map[string]func() (api.Memory, uint64) {
	return map[string]func() (api.Memory, uint64){
		"of none":    func() (api.Memory, uint64) { return lay(12, 0), 0 },
		"behind all": func() (api.Memory, uint64) { return lay(12, 10), 10 },
		"in between": func() (api.Memory, uint64) { return faulty(without(lay(16, 6), 12)), 6 },
		"of one": func() (api.Memory, uint64) {
			return lay(18, 5, api.Twin{At: 7, Key: 2, Value: 3}), 5
		},
		"of three": func() (api.Memory, uint64) {
			_, head, l := three()
			return without(lay(30, head, l...), 22), head
		},
		"side by side": func() (api.Memory, uint64) {
			return lay(22, 0, api.Twin{At: 6, Key: wholeWord, Value: 1}, api.Twin{At: 10, Value: wholeWord}, api.Twin{At: 2, Key: wholeWord}), 0
		},
		"of seven": func() (api.Memory, uint64) {
			var l []api.Twin
			for i := range uint64(7) {
				l = append(l, api.Twin{At: 31 - 4*i, Key: i % 3, Value: i})
			}
			return without(lay(40, 4, l...), 39), 4
		},
	}
}

// P16.4: a node at each place, behind each place.
func TestInsert(t *testing.T) {
	for name, at := range lists() {
		m, head := at()
		were := map[api.Errno]int{}
		for _, at := range places(len(m.Words)) {
			for _, prev := range places(len(m.Words)) {
				_, e := mustInsert(t, m, head, prev, api.Twin{At: at, Key: 77, Value: at})
				were[e]++
			}
		}
		if were[api.OK] == 0 || were[api.ErrArg] == 0 || were[api.ErrNone] == 0 {
			t.Errorf("%s: %v", name, were)
		}
	}
}

// P16.4: what the node holds does not matter.
func TestInsertAnything(t *testing.T) {
	m, head, l := three()
	m = lay(22, head, l...)
	for _, key := range values() {
		for _, value := range values() {
			for _, prev := range []uint64{0, 5, 1, 9} {
				if _, e := mustInsert(t, m, head, prev, api.Twin{At: 17, Key: key, Value: value}); e != api.OK {
					t.Error(e)
				}
			}
		}
	}
}

// P16.4: room that is lacking: one word of a node that is free, or is one of the list's; the word 0 is no node's.
func TestNoRoom(t *testing.T) {
	m, head, l := three()
	m = lay(20, head, l...)
	for _, at := range places(20) {
		for _, prev := range []uint64{0, 5, 1, 9} {
			_, _, e := double.Insert(m, head, prev, api.Twin{At: at})
			if want := at == 15 || at == 16; want != (e == api.OK) || !want && e != api.ErrArg {
				t.Errorf("Insert at %d: %d", at, e)
			}
		}
	}
	if _, _, e := double.Insert(lay(9, 7), 7, 0, api.Twin{}); e != api.ErrArg {
		t.Errorf("Insert at 0: %d", e)
	}
	for free := range uint64(6) {
		_, e := mustInsert(t, without(lay(8, 6), free), 6, 0, api.Twin{At: 1, Key: 4})
		if want := free >= 1 && free <= 4; want != (e == api.ErrArg) {
			t.Errorf("Insert at 1, %d is free: %d", free, e)
		}
	}
}

// P16.4: the greatest memory is filled, and a node that stands anywhere removed.
func TestGreatList(t *testing.T) {
	m, l := great()
	head := uint64(api.MaxWords - 2)
	if _, e := mustInsert(t, m, head, 1, api.Twin{At: 1, Key: 9}); e != api.ErrArg {
		t.Errorf("Insert: %d", e)
	}
	for _, i := range []int{0, 1, mostNodes / 2, mostNodes - 2, mostNodes - 1} {
		n, e := mustRemove(t, m, head, l[i].At)
		if e != api.OK {
			t.Fatal(e)
		}
		mustNodes(t, n, head, slices.Delete(slices.Clone(l), i, i+1)...)
		prev := uint64(0)
		if i > 0 {
			prev = l[i-1].At
		}
		if n, e = mustInsert(t, n, head, prev, l[i]); e != api.OK || !same(n, m) {
			t.Errorf("%v is not put where it was: %d", l[i], e)
		}
	}
}

// P16.4: a node at each place that has one, and at all others.
func TestRemove(t *testing.T) {
	for name, at := range lists() {
		m, head := at()
		gone := 0
		for _, node := range places(len(m.Words)) {
			if n, e := mustRemove(t, m, head, node); e == api.OK {
				gone++
				mustRemove(t, n, head, node)
			}
		}
		if gone != len(plainNodes(m, head)) {
			t.Errorf("%s: %d are removed", name, gone)
		}
	}
}
