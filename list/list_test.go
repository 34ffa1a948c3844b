package list_test

import (
	"slices"
	"testing"

	"afterglow/api"
	"afterglow/list"
)

// three is a list of three nodes, from the word 13 on, in a memory of 17 words; none of the first words is used but by it.
func three() (api.Memory, uint64, []api.Node) {
	l := []api.Node{{At: 5, Key: 9, Value: 90, Hash: 1}, {At: 1, Key: 3, Value: 30, Hash: 2}, {At: 9, Key: 4, Value: 40, Hash: 2}}
	return lay(17, 13, l...), 13, l
}

func mustNodes(t *testing.T, m api.Memory, head uint64, want ...api.Node) {
	t.Helper()
	if l, e := list.Nodes(m, head); e != api.OK || !slices.Equal(l, want) {
		t.Errorf("Nodes(%v, %d): %v, %d, not %v", m, head, l, e, want)
	}
}

func mustBeNone(t *testing.T, m api.Memory, head uint64, want api.Errno) {
	t.Helper()
	if l, e := list.Nodes(m, head); e != want || len(l) != 0 {
		t.Errorf("Nodes(%v, %d): %v, %d, not %d", m, head, l, e, want)
	}
}

// The chapter's examples.
func TestExamples(t *testing.T) {
	m := live(16)
	clear(m.Words)
	four, eight := api.Node{At: 4, Key: 7, Value: 70, Hash: 2}, api.Node{At: 8, Key: 3, Value: 30, Hash: 1}
	m, n, e := list.Insert(m, 0, four)
	if e != api.OK || n != 6 {
		t.Errorf("Insert of 4: %d, %d", n, e)
	}
	m, n, e = list.Insert(m, 0, eight)
	if e != api.OK || n != 7 {
		t.Errorf("Insert of 8: %d, %d", n, e)
	}
	mustNodes(t, m, 0, eight, four)
	if s, n, e := list.Find(m, 0, 2, 7); e != api.OK || n != 6 || !s.Found || s.Value != 70 {
		t.Errorf("Find: %v, %d, %d", s, n, e)
	}
	if n, steps, e := list.Insert(m, 0, api.Node{At: 12, Key: 7, Hash: 2}); e != api.ErrThere || steps != 0 || !empty(n) {
		t.Errorf("Insert of 12: %v, %d, %d", n, steps, e)
	}
	m, at, e := list.Remove(m, 0, 1, 3)
	if e != api.OK || at != 8 {
		t.Errorf("Remove: %d, %d", at, e)
	}
	mustNodes(t, m, 0, four)
}

// P15.1: lists of none, of one, and of some, wherever they stand; a fault of long ago is nothing to them.
func TestNodes(t *testing.T) {
	m, head, l := three()
	mustNodes(t, m, head, l...)
	mustNodes(t, faulty(m), head, l...)
	mustNodes(t, lay(1, 0), 0)
	for head := range uint64(5) {
		mustNodes(t, lay(5, head), head)
	}
	first := api.Node{At: 1, Key: wholeWord, Value: wholeWord, Hash: wholeWord}
	mustNodes(t, lay(5, 0, first), 0, first)
	mustNodes(t, lay(6, 5, first), 5, first)
	m, l = great()
	mustNodes(t, m, api.MaxWords-1, l...)
	others := api.Node{At: 5, Key: 4, Value: 4, Hash: 4}
	m = lay(17, 13, others)
	m.Words[0], m.Words[7] = 9, 0
	mustNodes(t, m, 13, others) // whatever leads elsewhere
}

// P15.1: nodes stand by their hash, then by their key, whatever their values are.
func TestOrder(t *testing.T) {
	for _, hash := range values() {
		for _, key := range values() {
			for _, hash2 := range values() {
				for _, key2 := range values() {
					l := []api.Node{{At: 5, Key: key, Value: 4, Hash: hash}, {At: 1, Key: key2, Value: 3, Hash: hash2}}
					if m := lay(9, 0, l...); hash < hash2 || hash == hash2 && key < key2 {
						mustNodes(t, m, 0, l...)
					} else {
						mustBeNone(t, m, 0, api.ErrList)
					}
				}
			}
		}
	}
}

// P15.1: a word that is free, or not there, or met twice makes a list none; words that are no list's do nothing.
func TestNoLists(t *testing.T) {
	m, head, l := three()
	for at := range uint64(17) {
		if at == 0 || at > 13 {
			mustNodes(t, without(m, at), head, l...)
		} else {
			mustBeNone(t, without(m, at), head, api.ErrList)
		}
	}
	for _, link := range []uint64{13, 7, 3, 11} {
		for _, to := range places(17) {
			n := with(m, link, to)
			if l, is := plainOf(n).list(head); is {
				mustNodes(t, n, head, l...)
			} else {
				mustBeNone(t, n, head, api.ErrList)
			}
		}
	}
	for _, at := range places(17) {
		if l, is := plainOf(m).list(at); is {
			mustNodes(t, m, at, l...)
		} else {
			mustBeNone(t, m, at, api.ErrList)
		}
	}
	free := api.Memory{Words: make([]uint64, 6), Live: make([]bool, 6)}
	for at := range uint64(6) {
		mustBeNone(t, free, at, api.ErrList)
	}
}

// P15.1: a node that stands on words of another one, or of its head, though it is in order.
func TestOverlap(t *testing.T) {
	for head := range uint64(12) {
		for first := range uint64(9) {
			for second := range uint64(9) {
				m := live(12)
				clear(m.Words)
				m.Words[head] = first
				if first > 0 {
					m.Words[first+2] = second
				}
				for i, at := range []uint64{first, second} {
					if at > 0 {
						m.Words[at+3] += uint64(i)
					}
				}
				if l, is := plainOf(m).list(head); is {
					mustNodes(t, m, head, l...)
				} else {
					mustBeNone(t, m, head, api.ErrList)
				}
			}
		}
	}
}

// P15.1: all of a small memory, whatever it holds, and whichever of its words are live.
func TestSmallMemories(t *testing.T) {
	lists := 0
	for bits := range 1 << 6 {
		for held := range 3 * 3 * 3 * 3 * 3 * 3 {
			m := api.Memory{Words: make([]uint64, 6), Live: make([]bool, 6)}
			for i := range m.Words {
				if m.Live[i] = bits>>i&1 != 0; m.Live[i] {
					m.Words[i] = uint64(held % 3)
				}
				held /= 3
			}
			for head := range uint64(7) {
				l, is := plainOf(m).list(head)
				if is {
					mustNodes(t, m, head, l...)
					lists += len(l)
				} else {
					mustBeNone(t, m, head, api.ErrList)
				}
			}
		}
	}
	if lists < 100 {
		t.Errorf("only %d nodes were met", lists)
	}
}

// P15.1: lists in which a word or two are others, by chance.
func TestWordsThatAreOthers(t *testing.T) {
	c := chance(15)
	lists, none := 0, 0
	for range 20000 {
		m, head, _ := three()
		for range 1 + c.below(2) {
			if at := uint64(c.below(17)); c.below(12) == 0 {
				m = without(m, at)
			} else if m.Live[at] {
				m = with(m, at, uint64(c.below(18)))
			}
		}
		l, is := plainOf(m).list(head)
		if is {
			mustNodes(t, m, head, l...)
			lists++
		} else {
			mustBeNone(t, m, head, api.ErrList)
			none++
		}
	}
	if lists < 2000 || none < 2000 {
		t.Errorf("%d lists, %d none", lists, none)
	}
}

// Errors: a memory that may not be goes ahead of all else; then who may not be; then what is no list; then the rest.
func TestErrors(t *testing.T) {
	m, head, l := three()
	mustTell := func(what string, got, want api.Errno, zero bool) {
		t.Helper()
		if got != want || !zero {
			t.Errorf("%s: %d, not %d; all else is zero: %v", what, got, want, zero)
		}
	}
	for _, m := range noMemories() {
		for _, at := range []uint64{0, 5, wholeWord} {
			mustBeNone(t, m, at, api.ErrMemory)
			for _, phase := range []int{-1, 0, 3, 5, 8} {
				n, s, e := list.StepSeek(m, api.Seek{Phase: phase, Link: at, Node: 4})
				mustTell("StepSeek", e, api.ErrMemory, empty(n) && s == api.Seek{})
				n, d, e := list.StepEdit(m, api.Edit{Phase: phase, Link: at, Next: 4})
				mustTell("StepEdit", e, api.ErrMemory, empty(n) && d == api.Edit{})
			}
			s, steps, e := list.Find(m, at, 1, 2)
			mustTell("Find", e, api.ErrMemory, s == api.Seek{} && steps == 0)
			n, steps, e := list.Insert(m, at, api.Node{At: at, Key: 1})
			mustTell("Insert", e, api.ErrMemory, empty(n) && steps == 0)
			n, gone, e := list.Remove(m, at, 1, 2)
			mustTell("Remove", e, api.ErrMemory, empty(n) && gone == 0)
		}
	}
	for _, at := range append(places(17)[:24], 1, 14, 17) {
		for _, n := range append(l, api.Node{}, api.Node{At: 16}, api.Node{At: wholeWord}) {
			s, steps, e := list.Find(m, at, n.Hash, n.Key)
			mustTell("Find", e, api.ErrList, s == api.Seek{} && steps == 0)
			m2, steps, e := list.Insert(m, at, n)
			mustTell("Insert", e, api.ErrList, empty(m2) && steps == 0)
			m2, gone, e := list.Remove(m, at, n.Hash, n.Key)
			mustTell("Remove", e, api.ErrList, empty(m2) && gone == 0)
		}
	}
	for _, n := range l {
		n.At = 14 // has no room
		m2, steps, e := list.Insert(m, head, n)
		mustTell("Insert", e, api.ErrArg, empty(m2) && steps == 0)
	}
}

// Nothing that is handed in changes, and what is told is new.
func TestApart(t *testing.T) {
	m, head, _ := three()
	m = lay(21, head, plainNodes(m, head)...)
	for phase := range api.SkLost + 1 {
		for _, at := range []uint64{1, 99} {
			apart(t, m, func(m api.Memory) api.Memory {
				m, _, _ = list.StepSeek(m, api.Seek{Phase: phase, Link: at, Node: at, Hash: 2, Key: 3})
				return m
			})
		}
	}
	for phase := range api.EdLost + 1 {
		for _, at := range []uint64{14, 99} {
			apart(t, m, func(m api.Memory) api.Memory {
				m, _, _ = list.StepEdit(m, api.Edit{Phase: phase, Link: at, Node: api.Node{At: at, Key: 1, Value: 2, Hash: 3}, Next: 4})
				return m
			})
		}
	}
	apart(t, m, func(m api.Memory) api.Memory {
		m, _, _ = list.Insert(m, head, api.Node{At: 14, Key: 1, Value: 2, Hash: 3})
		return m
	})
	apart(t, m, func(m api.Memory) api.Memory {
		m, _, _ = list.Remove(m, head, 2, 3)
		return m
	})
	apart(t, m, func(m api.Memory) api.Memory {
		was := whole(m)
		list.Nodes(m, head)
		list.Find(m, head, 2, 4)
		list.Insert(m, head, api.Node{At: 14, Key: 3, Hash: 2})
		list.Remove(m, head, 3, 3)
		if !same(was, whole(m)) {
			t.Errorf("%v is changed: %v", was, whole(m))
		}
		return clone(m)
	})
	first, _ := list.Nodes(m, head)
	want := slices.Clone(first)
	clear(m.Words)
	if !slices.Equal(first, want) {
		t.Error("what is told is shared")
	}
}

// plainNodes is the nodes of a list that there is.
func plainNodes(m api.Memory, head uint64) []api.Node {
	l, _ := plainOf(m).list(head)
	return l
}
