package list_test

import (
	"slices"
	"testing"

	"afterglow/api"
	"afterglow/list"
)

// slots is how many nodes a small memory has room for, behind its head.
const slots = 3

// small is a memory that has a head, and room for a few nodes: what can be is gone through by it.
type small [1 + slots*api.NodeWords]uint64

func (w small) memory() api.Memory {
	m := live(len(w))
	copy(m.Words, w[:])
	return m
}

func smallOf(m api.Memory) small {
	return small(m.Words)
}

// pairs are the hashes, and keys, that a small memory's nodes have.
func pairs() [][2]uint64 {
	return [][2]uint64{{0, 1}, {1, 0}, {1, 1}, {2, 0}}
}

// mustStay fails unless the list is as it was up to the last step of who changes it, and is another one then: that is told.
func mustStay(t *testing.T, m api.Memory, head uint64, e api.Edit, is []api.Node) api.Memory {
	t.Helper()
	was := plainNodes(m, head)
	for e.Phase < api.EdOver {
		mustNodes(t, m, head, was...)
		var errno api.Errno
		if m, e, errno = list.StepEdit(m, e); errno != api.OK {
			t.Fatal(errno)
		}
	}
	if e.Phase != api.EdOver || m.Fault {
		t.Fatalf("%v in %v", e, m)
	}
	mustNodes(t, m, head, is...)
	return m
}

// mustComeOut fails unless one who seeks, step by step, comes out where Find does.
func mustComeOut(t *testing.T, m api.Memory, head, hash, key uint64) api.Seek {
	t.Helper()
	want := mustFind(t, m, head, hash, key)
	s := list.Seek(head, hash, key)
	for s.Phase < api.SkOver {
		n, next, e := list.StepSeek(m, s)
		if e != api.OK || !same(n, m) {
			t.Fatalf("StepSeek(%v, %v): %v, %d", m, s, n, e)
		}
		s = next
	}
	if s != want {
		t.Fatalf("%v, not %v", s, want)
	}
	return s
}

// mustPut puts a node, at once and step by step, and fails unless it is found then, and all others are as they were.
func mustPut(t *testing.T, m api.Memory, head uint64, n api.Node) api.Memory {
	t.Helper()
	was := plainNodes(m, head)
	is := slices.SortedFunc(slices.Values(append(slices.Clone(was), n)), func(a, b api.Node) int {
		if a.Hash < b.Hash || a.Hash == b.Hash && a.Key < b.Key {
			return -1
		}
		return 1
	})
	s := mustComeOut(t, m, head, n.Hash, n.Key)
	stepped := mustStay(t, m, head, list.Put(s.Link, n, s.Node), is)
	m, e := mustInsert(t, m, head, n)
	if e != api.OK || !same(m, stepped) {
		t.Fatalf("Insert of %v: %v, %d, not %v", n, m, e, stepped)
	}
	for _, one := range is {
		if s := mustComeOut(t, m, head, one.Hash, one.Key); !s.Found || s.Value != one.Value || s.Node != one.At {
			t.Fatalf("%v: %v in %v", one, s, m)
		}
	}
	return m
}

// mustCut cuts a node, at once and step by step, and fails unless it is found no more, all others are as they were, and it still leads to where it led.
func mustCut(t *testing.T, m api.Memory, head uint64, n api.Node) api.Memory {
	t.Helper()
	is := withoutNode(plainNodes(m, head), n.At)
	s := mustComeOut(t, m, head, n.Hash, n.Key)
	stepped := mustStay(t, m, head, list.Cut(s.Link, s.Node), is)
	was := slices.Clone(m.Words[n.At : n.At+4])
	m, e := mustRemove(t, m, head, n.Hash, n.Key)
	if e != api.OK || !same(m, stepped) {
		t.Fatalf("Remove of %v: %v, %d, not %v", n, m, e, stepped)
	}
	if !slices.Equal(m.Words[n.At:n.At+4], was) {
		t.Fatalf("%v leads elsewhere in %v", n, m)
	}
	if mustComeOut(t, m, head, n.Hash, n.Key).Found {
		t.Fatalf("%v is found in %v", n, m)
	}
	for _, one := range is {
		if s := mustComeOut(t, m, head, one.Hash, one.Key); !s.Found || s.Value != one.Value {
			t.Fatalf("%v: %v in %v", one, s, m)
		}
	}
	return m
}

// P15.6: all that can come of a small memory by nodes that are put, and cut.
func TestAllThatCanBe(t *testing.T) {
	var first small
	met := map[small]bool{first: true}
	for left := []small{first}; len(left) > 0; {
		w := left[len(left)-1]
		left = left[:len(left)-1]
		m := w.memory()
		l := plainNodes(m, 0)
		var next []small
		for _, n := range l {
			next = append(next, smallOf(mustCut(t, m, 0, n)))
		}
		for slot := range uint64(slots) {
			for _, p := range pairs() {
				n := api.Node{At: 1 + api.NodeWords*slot, Key: p[1], Value: 5, Hash: p[0]}
				if taken := func(one api.Node) bool { return one.At == n.At || one.Hash == n.Hash && one.Key == n.Key }; !slices.ContainsFunc(l, taken) {
					next = append(next, smallOf(mustPut(t, m, 0, n)))
				}
			}
		}
		for _, n := range next {
			if !met[n] {
				met[n] = true
				left = append(left, n)
			}
		}
	}
	if len(met) < 1000 {
		t.Errorf("only %d were met", len(met))
	}
}

// P15.6: long rows of nodes that are put, and cut, in a greater memory, with two lists, of which one changes at a time.
func TestLongRows(t *testing.T) {
	c := chance(156)
	for range 30 {
		m := live(4 * 14)
		clear(m.Words)
		heads := [2]uint64{0, 55}
		for range 100 {
			head, other := heads[0], heads[1]
			if c.below(2) == 0 {
				head, other = other, head
			}
			l, o := plainNodes(m, head), plainNodes(m, other)
			n := api.Node{At: 1 + 4*uint64(c.below(13)), Key: of(&c, few()...), Value: uint64(c.below(1000)), Hash: of(&c, few()...)}
			same := func(one api.Node) bool { return one.Hash == n.Hash && one.Key == n.Key }
			switch stands := slices.ContainsFunc(append(o, l...), func(one api.Node) bool { return one.At == n.At }); {
			case stands && len(l) > 0:
				m = mustCut(t, m, head, of(&c, l...))
			case !stands && !slices.ContainsFunc(l, same):
				m = mustPut(t, m, head, n)
			}
			mustNodes(t, m, other, o...)
		}
	}
}

// P15.6: one who stood on a node that was cut goes on to those that it led to, and sees no fault.
func TestGoesOn(t *testing.T) {
	_, head, l := three()
	m := lay(18, head, l...)
	for steps := range 9 {
		s := list.Seek(head, 2, 4)
		for range steps {
			m, s, _ = list.StepSeek(m, s)
		}
		for _, n := range l[:2] {
			is := mustCut(t, m, head, n)
			on := s
			for on.Phase < api.SkOver {
				var e api.Errno
				if is, on, e = list.StepSeek(is, on); e != api.OK {
					t.Fatal(e)
				}
			}
			if is.Fault || !on.Found || on.Value != 40 || on.Node != 9 {
				t.Errorf("behind %d steps, and a cut of %v: %v", steps, n, on)
			}
		}
	}
}
