package double_test

import (
	"slices"
	"testing"

	"afterglow/api"
	"afterglow/double"
)

// slots is how many nodes a small memory has room for, behind its head.
const slots = 4

// small is a memory that has a head, and room for a few nodes: what can be is gone through by it.
type small [2 + slots*api.NodeWords]uint64

func (w small) memory() api.Memory {
	m := live(len(w))
	copy(m.Words, w[:])
	return m
}

func smallOf(m api.Memory) small {
	return small(m.Words)
}

// forward is what one who goes forward meets from the node at a place on, as often as there can be nodes.
func forward(m api.Memory, at uint64) []api.Twin {
	var l []api.Twin
	for at != 0 && len(l) < len(m.Words) {
		l = append(l, api.Twin{At: at, Key: m.Words[at], Value: m.Words[at+1]})
		at = m.Words[at+2]
	}
	return l
}

// mustTurn fails unless who goes forward sees the list as it was up to TwLink, and as it will be from then on, and it is one in the end: that is told.
func mustTurn(t *testing.T, m api.Memory, head uint64, s api.TwinEdit, is []api.Twin) api.Memory {
	t.Helper()
	sees := plainNodes(m, head)
	for s.Phase < api.TwOver {
		was := s.Phase
		var e api.Errno
		if m, s, e = double.Step(m, s); e != api.OK {
			t.Fatal(e)
		}
		if was == api.TwLink {
			sees = is
		}
		if l := forward(m, m.Words[head]); !slices.Equal(l, sees) {
			t.Fatalf("%v is seen behind %d in %v, not %v", l, was, m, sees)
		}
	}
	if s.Phase != api.TwOver || m.Fault {
		t.Fatalf("%v in %v", s, m)
	}
	mustNodes(t, m, head, is...)
	return m
}

// mustPut puts a node, at once and step by step, and fails unless it stands behind prev then, and all others as they were.
func mustPut(t *testing.T, m api.Memory, head, prev uint64, n api.Twin) api.Memory {
	t.Helper()
	was := plainNodes(m, head)
	is := slices.Insert(slices.Clone(was), 1+place(was, prev), n)
	stepped := mustTurn(t, m, head, double.Put(head, prev, n), is)
	m, e := mustInsert(t, m, head, prev, n)
	if e != api.OK || !same(m, stepped) {
		t.Fatalf("Insert of %v: %v, %d, not %v", n, m, e, stepped)
	}
	mustNodes(t, m, head, is...)
	return m
}

// mustCut cuts a node, at once and step by step, and fails unless it is gone then, all others are as they were, and it still leads to where it led.
func mustCut(t *testing.T, m api.Memory, head uint64, n api.Twin) api.Memory {
	t.Helper()
	was := plainNodes(m, head)
	at := place(was, n.At)
	is := slices.Delete(slices.Clone(was), at, at+1)
	stepped := mustTurn(t, m, head, double.Cut(head, n.At), is)
	held := slices.Clone(m.Words[n.At : n.At+4])
	m, e := mustRemove(t, m, head, n.At)
	if e != api.OK || !same(m, stepped) {
		t.Fatalf("Remove of %v: %v, %d, not %v", n, m, e, stepped)
	}
	mustNodes(t, m, head, is...)
	if !slices.Equal(m.Words[n.At:n.At+4], held) || !slices.Equal(forward(m, n.At), was[at:]) {
		t.Fatalf("%v leads elsewhere in %v", n, m)
	}
	return m
}

// P16.5: all that can come of a small memory by nodes that are put, and cut.
func TestAllThatCanBe(t *testing.T) {
	var first small
	met := map[small]bool{first: true}
	for left := []small{first}; len(left) > 0; {
		w := left[len(left)-1]
		left = left[:len(left)-1]
		m := w.memory()
		l := plainNodes(m, 0)
		var next []small
		for _, n := range l {
			next = append(next, smallOf(mustCut(t, m, 0, n)))
		}
		for slot := range uint64(slots) {
			n := api.Twin{At: 2 + api.NodeWords*slot, Key: slot, Value: 5}
			if place(l, n.At) >= 0 {
				continue
			}
			for _, prev := range append(slices.Clone(l), api.Twin{}) {
				next = append(next, smallOf(mustPut(t, m, 0, prev.At, n)))
			}
		}
		for _, n := range next {
			if !met[n] {
				met[n] = true
				left = append(left, n)
			}
		}
	}
	if len(met) < 1000 {
		t.Errorf("only %d were met", len(met))
	}
}

// P16.5: long rows of nodes that are put, and cut, in a greater memory, with two lists, of which one changes at a time.
func TestLongRows(t *testing.T) {
	c := chance(165)
	for range 30 {
		m := live(4 * 14)
		clear(m.Words)
		heads := [2]uint64{0, 54}
		for range 100 {
			head, other := heads[0], heads[1]
			if c.below(2) == 0 {
				head, other = other, head
			}
			l, o := plainNodes(m, head), plainNodes(m, other)
			n := api.Twin{At: 2 + 4*uint64(c.below(13)), Key: uint64(c.below(9)), Value: uint64(c.below(1000))}
			switch stands := place(l, n.At) >= 0 || place(o, n.At) >= 0; {
			case stands && len(l) > 0:
				m = mustCut(t, m, head, of(&c, l...))
			case !stands:
				m = mustPut(t, m, head, of(&c, append(l, api.Twin{})...).At, n)
			}
			mustNodes(t, m, other, o...)
		}
	}
}

// P16.5: one who stands on a node meets those that are there behind it, whatever is cut meanwhile, step by step; from one that was cut on, those that it led to.
func TestGoesOn(t *testing.T) {
	_, head, l := three()
	l = append(l, api.Twin{At: 15, Key: 6, Value: 60})
	for stands := range l {
		for cut := range l {
			m := lay(19, head, l...)
			was := slices.Clone(l[stands:])
			is := slices.DeleteFunc(slices.Clone(was), func(n api.Twin) bool { return n.At == l[cut].At })
			if stands == cut {
				is = was
			}
			s := double.Cut(head, l[cut].At)
			for s.Phase < api.TwOver {
				if l := forward(m, l[stands].At); s.Phase <= api.TwLink && !slices.Equal(l, was) || s.Phase > api.TwLink && !slices.Equal(l, is) {
					t.Errorf("from %d on, in %d, where %d is cut: %v", stands, s.Phase, cut, l)
				}
				m, s, _ = double.Step(m, s)
			}
			if l := forward(m, l[stands].At); !slices.Equal(l, is) {
				t.Errorf("from %d on, where %d was cut: %v", stands, cut, l)
			}
		}
	}
}
