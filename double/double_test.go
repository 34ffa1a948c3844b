package double_test

import (
	"slices"
	"testing"

	"afterglow/api"
	"afterglow/double"
)

// three is a list of three nodes, from the word 13 on, in a memory of 18 words; of the first words none but the word 0 is not used by it.
func three() (api.Memory, uint64, []api.Twin) {
	l := []api.Twin{{At: 5, Key: 9, Value: 90}, {At: 1, Key: 3, Value: 30}, {At: 9, Key: 3, Value: 30}}
	return lay(18, 13, l...), 13, l
}

// plainNodes is the nodes of a list that there is.
func plainNodes(m api.Memory, head uint64) []api.Twin {
	l, _ := plainOf(m).list(head)
	return l
}

// back is where nodes stand, the last one first.
func back(l []api.Twin) []uint64 {
	places := make([]uint64, len(l))
	for i, n := range l {
		places[len(l)-1-i] = n.At
	}
	return places
}

func mustNodes(t *testing.T, m api.Memory, head uint64, want ...api.Twin) {
	t.Helper()
	if l, e := double.Nodes(m, head); e != api.OK || !slices.Equal(l, want) {
		t.Errorf("Nodes(%v, %d): %v, %d, not %v", m, head, l, e, want)
	}
	if l, e := double.Ahead(m, head); e != api.OK || !slices.Equal(l, back(want)) {
		t.Errorf("Ahead(%v, %d): %v, %d, not %v turned", m, head, l, e, want)
	}
}

func mustBeNone(t *testing.T, m api.Memory, head uint64, want api.Errno) {
	t.Helper()
	if l, e := double.Nodes(m, head); e != want || len(l) != 0 {
		t.Errorf("Nodes(%v, %d): %v, %d, not %d", m, head, l, e, want)
	}
	if l, e := double.Ahead(m, head); e != want || len(l) != 0 {
		t.Errorf("Ahead(%v, %d): %v, %d, not %d", m, head, l, e, want)
	}
}

// mustBe fails unless there is the list that is there as it is told otherwise, or none, if there is none; it says which.
func mustBe(t *testing.T, m api.Memory, head uint64) bool {
	t.Helper()
	l, is := plainOf(m).list(head)
	if is {
		mustNodes(t, m, head, l...)
	} else {
		mustBeNone(t, m, head, api.ErrDouble)
	}
	return is
}

// The chapter's examples.
func TestExamples(t *testing.T) {
	m := live(32)
	clear(m.Words)
	four, eight := api.Twin{At: 4, Key: 7}, api.Twin{At: 8, Key: 9}
	m, n, e := double.Insert(m, 0, 0, four)
	if e != api.OK || n != 7 {
		t.Errorf("Insert of 4: %d, %d", n, e)
	}
	m, n, e = double.Insert(m, 0, 4, eight)
	if e != api.OK || n != 7 {
		t.Errorf("Insert of 8: %d, %d", n, e)
	}
	mustNodes(t, m, 0, four, eight)
	m, n, e = double.Insert(m, 0, 0, api.Twin{At: 12})
	if e != api.OK || n != 7 {
		t.Errorf("Insert of 12: %d, %d", n, e)
	}
	if l, e := double.Ahead(m, 0); e != api.OK || !slices.Equal(l, []uint64{8, 4, 12}) {
		t.Errorf("Ahead: %v, %d", l, e)
	}
	if is, n, e := double.Insert(m, 0, 5, api.Twin{At: 16}); e != api.ErrNone || n != 0 || !empty(is) {
		t.Errorf("Insert behind 5: %v, %d, %d", is, n, e)
	}
	if is, n, e := double.Insert(m, 0, 0, api.Twin{At: 8}); e != api.ErrArg || n != 0 || !empty(is) {
		t.Errorf("Insert of 8 again: %v, %d, %d", is, n, e)
	}
	m, n, e = double.Remove(m, 0, 4)
	if e != api.OK || n != 4 || m.Words[14] != 8 || m.Words[11] != 12 {
		t.Errorf("Remove: %v, %d, %d", m, n, e)
	}
	if is, n, e := double.Remove(m, 0, 4); e != api.ErrNone || n != 0 || !empty(is) {
		t.Errorf("Remove again: %v, %d, %d", is, n, e)
	}
}

// P16.1: lists of none, of one, and of some, wherever they stand, in whatever order; a fault of long ago is nothing to them.
func TestNodes(t *testing.T) {
	m, head, l := three()
	mustNodes(t, m, head, l...)
	mustNodes(t, faulty(m), head, l...)
	mustNodes(t, lay(2, 0), 0)
	for head := range uint64(5) {
		mustNodes(t, lay(6, head), head)
	}
	one := api.Twin{At: 2, Key: wholeWord, Value: wholeWord}
	mustNodes(t, lay(6, 0, one), 0, one)
	one.At = 1
	mustNodes(t, lay(7, 5, one), 5, one)
	m, l = great()
	mustNodes(t, m, api.MaxWords-2, l...)
	for _, a := range values() {
		for _, b := range values() {
			l := []api.Twin{{At: 7, Key: a, Value: b}, {At: 3, Key: b, Value: a}, {At: 11, Key: a, Value: b}}
			mustNodes(t, lay(15, 1, l...), 1, l...)
		}
	}
}

// P16.1: two lists in one memory are told each by itself.
func TestTwoLists(t *testing.T) {
	m, head, l := three()
	o := []api.Twin{{At: 30, Key: 1, Value: 2}, {At: 22, Key: 5, Value: 5}}
	other := lay(34, 19, o...)
	copy(other.Words, m.Words[:17])
	mustNodes(t, other, head, l...)
	mustNodes(t, other, 19, o...)
}

// P16.1: a word that is free, or not there, or met twice makes a list none; words that are no list's do nothing.
func TestNoLists(t *testing.T) {
	m, head, l := three()
	for at := range uint64(18) {
		if at == 0 || at > 14 {
			mustNodes(t, without(m, at), head, l...)
		} else {
			mustBeNone(t, without(m, at), head, api.ErrDouble)
		}
	}
	for _, at := range places(18) {
		mustBe(t, m, at)
		for _, link := range []uint64{13, 14, 3, 4, 7, 8, 11, 12} {
			if is := mustBe(t, with(m, link, at), head); is != (at == m.Words[link]) {
				t.Errorf("there is a list, where %d leads to %d: %v", link, at, is)
			}
		}
	}
	mustBeNone(t, live(1), 0, api.ErrDouble)
	free := api.Memory{Words: make([]uint64, 6), Live: make([]bool, 6)}
	for at := range uint64(6) {
		mustBeNone(t, free, at, api.ErrDouble)
	}
	for _, at := range places(2) {
		mustBe(t, lay(2, 0), at)
		mustBe(t, lay(api.MaxWords, 0), at)
	}
}

// P16.1: a node that stands on words of another one, or of its head, though all of them lead both ways.
func TestOverlap(t *testing.T) {
	lists := 0
	for head := range uint64(13) {
		for first := range uint64(10) {
			for second := range uint64(10) {
				for _, order := range [][]uint64{{0, 1, 2}, {2, 1, 0}, {1, 0, 2}} {
					m := live(14)
					clear(m.Words)
					for _, part := range order {
						switch {
						case part == 0:
							m.Words[head], m.Words[head+1] = first, second
						case part == 1 && first > 0:
							m.Words[first+2], m.Words[first+3] = second, 0
						case part == 2 && second > 0:
							m.Words[second+2], m.Words[second+3] = 0, first
						}
					}
					if mustBe(t, m, head) {
						lists++
					}
				}
			}
		}
	}
	if lists < 100 {
		t.Errorf("only %d lists were met", lists)
	}
}

// P16.1: all of a small memory, whatever it holds, and whichever of its words are live; and of one that is greater, and live.
func TestSmallMemories(t *testing.T) {
	lists := 0
	for bits := range 1 << 6 {
		for held := range 3 * 3 * 3 * 3 * 3 * 3 {
			m := api.Memory{Words: make([]uint64, 6), Live: make([]bool, 6)}
			for i := range m.Words {
				if m.Live[i] = bits>>i&1 != 0; m.Live[i] {
					m.Words[i] = uint64(held % 3)
				}
				held /= 3
			}
			for head := range uint64(7) {
				if mustBe(t, m, head) {
					lists += len(plainNodes(m, head))
				}
			}
		}
	}
	for held := range 1 << 14 {
		m := live(7)
		for i := range m.Words {
			m.Words[i] = uint64(held >> (2 * i) & 3)
		}
		for head := range uint64(8) {
			if mustBe(t, m, head) {
				lists += len(plainNodes(m, head))
			}
		}
	}
	if lists < 100 {
		t.Errorf("only %d nodes were met", lists)
	}
}

// P16.1: lists in which a word or two are others, by chance.
func TestWordsThatAreOthers(t *testing.T) {
	c := chance(16)
	lists, none := 0, 0
	for range 20000 {
		m, head, _ := three()
		for range 1 + c.below(2) {
			if at := uint64(c.below(18)); c.below(12) == 0 {
				m = without(m, at)
			} else if m.Live[at] {
				m = with(m, at, uint64(c.below(18)))
			}
		}
		if mustBe(t, m, head) {
			lists++
		} else {
			none++
		}
	}
	if lists < 2000 || none < 2000 {
		t.Errorf("%d lists, %d none", lists, none)
	}
}

// Errors: a memory that may not be goes ahead of all else; then who may not be; then what is no list; then the rest.
func TestErrors(t *testing.T) {
	m, head, l := three()
	mustTell := func(what string, got, want api.Errno, zero bool) {
		t.Helper()
		if got != want || !zero {
			t.Errorf("%s: %d, not %d; all else is zero: %v", what, got, want, zero)
		}
	}
	for _, m := range noMemories() {
		for _, at := range []uint64{0, 5, wholeWord} {
			mustBeNone(t, m, at, api.ErrMemory)
			for _, phase := range []int{-1, 0, 3, 7, 10, 11} {
				n, s, e := double.Step(m, api.TwinEdit{Phase: phase, Head: at, Node: api.Twin{At: at}, Prev: 4, Next: 4})
				mustTell("Step", e, api.ErrMemory, empty(n) && s == api.TwinEdit{})
			}
			n, steps, e := double.Insert(m, at, at, api.Twin{At: at, Key: 1})
			mustTell("Insert", e, api.ErrMemory, empty(n) && steps == 0)
			n, steps, e = double.Remove(m, at, at)
			mustTell("Remove", e, api.ErrMemory, empty(n) && steps == 0)
		}
	}
	for _, at := range append(places(18)[:24], 1, 15, 17, 18) {
		for _, n := range append(l, api.Twin{}, api.Twin{At: 16}, api.Twin{At: wholeWord}) {
			for _, prev := range []uint64{0, 1, 2, 5, n.At} {
				is, steps, e := double.Insert(m, at, prev, n)
				mustTell("Insert", e, api.ErrDouble, empty(is) && steps == 0)
			}
			is, steps, e := double.Remove(m, at, n.At)
			mustTell("Remove", e, api.ErrDouble, empty(is) && steps == 0)
		}
	}
	for _, n := range append(l, api.Twin{}, api.Twin{At: 15}, api.Twin{At: wholeWord}) {
		is, steps, e := double.Insert(m, head, 2, n)
		mustTell("Insert", e, api.ErrNone, empty(is) && steps == 0)
		is, steps, e = double.Insert(m, head, 9, n)
		mustTell("Insert", e, api.ErrArg, empty(is) && steps == 0)
	}
}

// Nothing that is handed in changes, and what is told is new.
func TestApart(t *testing.T) {
	m, head, l := three()
	m = lay(22, head, l...)
	for phase := range api.TwLost + 1 {
		for _, cuts := range []bool{false, true} {
			for _, at := range []uint64{5, 99} {
				s := api.TwinEdit{Phase: phase, Cuts: cuts, Head: at, Node: api.Twin{At: at, Key: 1, Value: 2}, Prev: at, Next: at}
				apart(t, m, func(m api.Memory) api.Memory {
					m, _, _ = double.Step(m, s)
					return m
				})
			}
		}
	}
	apart(t, m, func(m api.Memory) api.Memory {
		m, _, _ = double.Insert(m, head, 5, api.Twin{At: 16, Key: 1, Value: 2})
		return m
	})
	apart(t, m, func(m api.Memory) api.Memory {
		m, _, _ = double.Remove(m, head, 1)
		return m
	})
	apart(t, m, func(m api.Memory) api.Memory {
		was := whole(m)
		double.Nodes(m, head)
		double.Ahead(m, head)
		double.Insert(m, head, 2, api.Twin{At: 16})
		double.Insert(m, head, 5, api.Twin{At: 15})
		double.Insert(m, head, 5, api.Twin{At: 19})
		double.Remove(m, head, 2)
		if !same(was, whole(m)) {
			t.Errorf("%v is changed: %v", was, whole(m))
		}
		return clone(m)
	})
	first, _ := double.Nodes(m, head)
	places, _ := double.Ahead(m, head)
	want, turned := slices.Clone(first), slices.Clone(places)
	clear(m.Words)
	if !slices.Equal(first, want) || !slices.Equal(places, turned) {
		t.Error("what is told is shared")
	}
}
