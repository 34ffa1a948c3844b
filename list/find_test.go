package list_test

import (
	"slices"
	"testing"

	"afterglow/api"
	"afterglow/list"
)

// sought is who seeks in a list of such nodes once it is over, and how many steps that takes, told by the list alone.
func sought(head uint64, l []api.Node, hash, key uint64) (api.Seek, int) {
	s := api.Seek{Phase: 4, Hash: hash, Key: key, Link: head}
	steps := 0
	for _, n := range l {
		s.Node = n.At
		switch {
		case n.Hash > hash:
			return s, steps + 2
		case n.Hash == hash && n.Key > key:
			return s, steps + 3
		case n.Hash == hash && n.Key == key:
			s.Value, s.Found = n.Value, true
			return s, steps + 4
		case n.Hash == hash:
			steps++
		}
		s.Link = n.At + 2
		steps += 2
	}
	s.Node = 0
	return s, steps + 1
}

// inserted is a memory with one more node in its list, and how many steps that takes.
func inserted(m api.Memory, head uint64, n api.Node) (api.Memory, int) {
	s, steps := sought(head, plainNodes(m, head), n.Hash, n.Key)
	m = with(with(with(m, n.At, n.Key), n.At+1, n.Value), n.At+3, n.Hash)
	return with(with(m, n.At+2, s.Node), s.Link, n.At), steps + 5
}

// removed is a memory with one node less in its list.
func removed(m api.Memory, head uint64, n api.Node) api.Memory {
	s, _ := sought(head, plainNodes(m, head), n.Hash, n.Key)
	return with(m, s.Link, m.Words[n.At+2])
}

// withoutNode is l without the node at a place.
func withoutNode(l []api.Node, at uint64) []api.Node {
	return slices.DeleteFunc(slices.Clone(l), func(n api.Node) bool { return n.At == at })
}

// mustFind fails unless one who seeks comes out as told, and tells where.
func mustFind(t *testing.T, m api.Memory, head, hash, key uint64) api.Seek {
	t.Helper()
	want, steps := sought(head, plainNodes(m, head), hash, key)
	if s, many, e := list.Find(m, head, hash, key); e != api.OK || s != want || many != steps {
		t.Fatalf("Find(%v, %d, %d, %d): %v, %d, %d, not %v, %d", m, head, hash, key, s, many, e, want, steps)
	}
	return want
}

// mustInsert fails unless a node is inserted as told, or the error is the one that comes first.
func mustInsert(t *testing.T, m api.Memory, head uint64, n api.Node) (api.Memory, api.Errno) {
	t.Helper()
	want, steps := api.Memory{}, 0
	s, _ := sought(head, plainNodes(m, head), n.Hash, n.Key)
	errno := api.OK
	switch {
	case !room(m, head, n.At):
		errno = api.ErrArg
	case s.Found:
		errno = api.ErrThere
	default:
		want, steps = inserted(m, head, n)
	}
	is, many, e := list.Insert(m, head, n)
	if e != errno || !same(is, want) || many != steps {
		t.Fatalf("Insert(%v, %d, %v): %v, %d, %d, not %v, %d, %d", m, head, n, is, many, e, want, steps, errno)
	}
	return is, e
}

// room says whether there is room for a node at a place: such words are gone over one by one.
func room(m api.Memory, head, at uint64) bool {
	p := plainOf(m)
	for behind := range uint64(4) {
		if _, is := p.live[at+behind]; !is || at == 0 || at+behind == head {
			return false
		}
		for _, n := range plainNodes(m, head) {
			if at+behind >= n.At && at+behind < n.At+4 {
				return false
			}
		}
	}
	return true
}

// mustRemove fails unless a node is removed as told, or there was none.
func mustRemove(t *testing.T, m api.Memory, head, hash, key uint64) (api.Memory, api.Errno) {
	t.Helper()
	var want api.Memory
	errno, at := api.ErrNone, uint64(0)
	for _, n := range plainNodes(m, head) {
		if n.Hash == hash && n.Key == key {
			want, errno, at = removed(m, head, n), api.OK, n.At
		}
	}
	is, gone, e := list.Remove(m, head, hash, key)
	if e != errno || !same(is, want) || gone != at {
		t.Fatalf("Remove(%v, %d, %d, %d): %v, %d, %d, not %v, %d, %d", m, head, hash, key, is, gone, e, want, at, errno)
	}
	return is, e
}

// lists are some, with heads, in memories of which some words are free.
func lists() map[string]func() (api.Memory, uint64) {
	return map[string]func() (api.Memory, uint64){
		"of none":    func() (api.Memory, uint64) { return lay(12, 0), 0 },
		"behind all": func() (api.Memory, uint64) { return lay(12, 11), 11 },
		"in between": func() (api.Memory, uint64) { return faulty(without(lay(16, 6), 11)), 6 },
		"of one": func() (api.Memory, uint64) {
			return lay(17, 5, api.Node{At: 6, Key: 2, Value: 3, Hash: 2}), 5
		},
		"of three": func() (api.Memory, uint64) {
			_, head, l := three()
			return without(lay(30, head, l...), 22), head
		},
		"at the edges": func() (api.Memory, uint64) {
			return lay(22, 0, api.Node{At: 5, Value: 1}, api.Node{At: 9, Key: wholeWord, Value: 1}, api.Node{At: 1, Hash: wholeWord}, api.Node{At: 13, Key: wholeWord, Hash: wholeWord}), 0
		},
		"of seven": func() (api.Memory, uint64) {
			var l []api.Node
			for i := range uint64(7) {
				l = append(l, api.Node{At: 30 - 4*i, Key: 2 * (i % 3), Value: i, Hash: 2 * (i / 3)})
			}
			return without(lay(40, 4, l...), 39), 4
		},
	}
}

// few are hashes, and keys, about those of the lists.
func few() []uint64 {
	return []uint64{0, 1, 2, 3, 4, 5, 9, 10, wholeWord - 1, wholeWord}
}

// P15.4: all that are there, and such as stand ahead of them, between, and behind.
func TestFind(t *testing.T) {
	found, not := 0, 0
	for _, at := range lists() {
		m, head := at()
		for _, hash := range few() {
			for _, key := range few() {
				if mustFind(t, m, head, hash, key).Found {
					found++
				} else {
					not++
				}
			}
		}
	}
	if found != 15 || not != 7*100-15 {
		t.Errorf("%d are found, %d are not", found, not)
	}
}

// P15.4: in the greatest memory.
func TestFindInGreat(t *testing.T) {
	m, l := great()
	for i := 0; i < len(l); i += 93 {
		s := mustFind(t, m, api.MaxWords-1, l[i].Hash, l[i].Key)
		if !s.Found || s.Value != l[i].Value || s.Node != l[i].At {
			t.Errorf("%v: %v", l[i], s)
		}
		mustFind(t, m, api.MaxWords-1, l[i].Hash, 2)
	}
	if s, steps, e := list.Find(m, api.MaxWords-1, wholeWord, 0); e != api.OK || s.Found || steps != 2*mostNodes+1 {
		t.Errorf("%v, %d, %d", s, steps, e)
	}
}

// P15.5: a node of each hash and key about those that are there, at each place.
func TestInsert(t *testing.T) {
	for name, at := range lists() {
		m, head := at()
		were := map[api.Errno]int{}
		for _, at := range places(len(m.Words)) {
			for _, hash := range few() {
				for _, key := range []uint64{0, 1, 2, 3, wholeWord} {
					_, e := mustInsert(t, m, head, api.Node{At: at, Key: key, Value: 77, Hash: hash})
					were[e]++
				}
			}
		}
		if were[api.OK] == 0 || were[api.ErrArg] == 0 || (were[api.ErrThere] == 0) != (len(plainNodes(m, head)) == 0) {
			t.Errorf("%s: %v", name, were)
		}
	}
}

// P15.5: room that is lacking goes ahead of one that is there.
func TestNoRoom(t *testing.T) {
	m, head, l := three()
	m = lay(19, head, l...)
	for _, n := range l {
		for _, at := range places(19) {
			_, _, e := list.Insert(m, head, api.Node{At: at, Key: n.Key, Hash: n.Hash})
			want := api.ErrArg
			if at == 14 || at == 15 {
				want = api.ErrThere
			}
			if e != want {
				t.Errorf("Insert at %d: %d, not %d", at, e, want)
			}
		}
	}
	zero := lay(9, 8)
	if _, _, e := list.Insert(zero, 8, api.Node{}); e != api.ErrArg {
		t.Errorf("Insert at 0: %d", e)
	}
	for free := range uint64(6) {
		_, e := mustInsert(t, without(lay(7, 6), free), 6, api.Node{At: 1, Key: 4})
		if want := free >= 1 && free <= 4; want != (e == api.ErrArg) {
			t.Errorf("Insert at 1, %d is free: %d", free, e)
		}
	}
}

// P15.5: the greatest memory is filled, and a node that stands anywhere removed.
func TestGreatList(t *testing.T) {
	m, l := great()
	head := uint64(api.MaxWords - 1)
	if _, e := mustInsert(t, m, head, api.Node{At: 1, Key: 9}); e != api.ErrArg {
		t.Errorf("Insert: %d", e)
	}
	for _, i := range []int{0, 1, mostNodes / 2, mostNodes - 2, mostNodes - 1} {
		n, e := mustRemove(t, m, head, l[i].Hash, l[i].Key)
		if e != api.OK {
			t.Fatal(e)
		}
		mustNodes(t, n, head, withoutNode(l, l[i].At)...)
		if n, e = mustInsert(t, n, head, l[i]); e != api.OK || !same(n, m) {
			t.Errorf("%v is not put where it was: %d", l[i], e)
		}
	}
}

// P15.5: each node that is there, and such as are not.
func TestRemove(t *testing.T) {
	for name, at := range lists() {
		m, head := at()
		gone := 0
		for _, hash := range few() {
			for _, key := range few() {
				if n, e := mustRemove(t, m, head, hash, key); e == api.OK {
					gone++
					mustRemove(t, n, head, hash, key)
				}
			}
		}
		if gone != len(plainNodes(m, head)) {
			t.Errorf("%s: %d are removed", name, gone)
		}
	}
}
