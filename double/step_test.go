package double_test

import (
	"math"
	"slices"
	"testing"

	"afterglow/api"
	"afterglow/double"
)

// P16.2: who puts, and cuts, at first, whatever is handed in.
func TestAtFirst(t *testing.T) {
	for _, a := range values() {
		for _, b := range values() {
			n := api.Twin{At: 1, Key: a, Value: b}
			if s := double.Put(a, b, n); s != (api.TwinEdit{Phase: 0, Head: a, Node: n, Prev: b}) {
				t.Errorf("Put(%d, %d, %v): %v", a, b, n, s)
			}
			n = api.Twin{At: a, Key: 2, Value: 3}
			if s := double.Put(8, b, n); s != (api.TwinEdit{Phase: 0, Head: 8, Node: n, Prev: b}) {
				t.Errorf("Put(8, %d, %v): %v", b, n, s)
			}
			if s := double.Cut(a, b); s != (api.TwinEdit{Phase: 5, Cuts: true, Head: a, Node: api.Twin{At: b}}) {
				t.Errorf("Cut(%d, %d): %v", a, b, s)
			}
		}
	}
}

// mustStep fails unless a step is as the chapter's table says.
func mustStep(t *testing.T, m api.Memory, s api.TwinEdit) (api.Memory, api.TwinEdit) {
	t.Helper()
	p := plainOf(m)
	want := p.twin(s)
	n, got, e := double.Step(m, s)
	if e != api.OK || got != want || !same(n, p.m) {
		t.Fatalf("Step(%v, %v): %v, %v, %d, not %v", m, s, n, got, e, want)
	}
	return n, got
}

// steppers are memories in which steps are made: in some of them some words are free.
func steppers() []api.Memory {
	m := live(11)
	for i := range m.Words {
		m.Words[i] = uint64(i % 4)
	}
	great := live(api.MaxWords)
	return []api.Memory{m, faulty(m), without(m, 4), without(without(m, 0), 10), live(1), without(great, 0), without(great, api.MaxWords-1)}
}

// P16.3: a step in each phase, whether it cuts or not, with each of its places anywhere, the edges among them.
func TestStep(t *testing.T) {
	for _, m := range steppers() {
		for _, at := range places(min(len(m.Words), 16)) {
			for phase := range api.TwLost + 1 {
				for _, cuts := range []bool{false, true} {
					for _, near := range []uint64{0, 3} {
						s := api.TwinEdit{Phase: phase, Cuts: cuts, Head: 1, Node: api.Twin{At: 6, Key: 71, Value: 72}, Prev: near, Next: near}
						head, node, prev, next := s, s, s, s
						head.Head, node.Node.At, prev.Prev, next.Next = at, at, at, at
						for _, s := range []api.TwinEdit{head, node, prev, next} {
							mustStep(t, m, s)
						}
					}
				}
			}
		}
	}
}

// P16.3: what is stored, and loaded, is so whatever it is.
func TestAnyWords(t *testing.T) {
	for _, a := range values() {
		for _, b := range values() {
			m := live(12)
			m.Words[0], m.Words[1], m.Words[4], m.Words[5], m.Words[8], m.Words[9] = a, b, b, a, a, b
			for phase := range api.TwLost + 1 {
				for _, cuts := range []bool{false, true} {
					for _, near := range []uint64{0, 2} {
						mustStep(t, m, api.TwinEdit{Phase: phase, Cuts: cuts, Node: api.Twin{At: 6, Key: a, Value: b}, Prev: near, Next: b})
						mustStep(t, m, api.TwinEdit{Phase: phase, Cuts: cuts, Node: api.Twin{At: 6, Key: a, Value: b}, Prev: b, Next: near})
					}
				}
			}
		}
	}
}

// P16.3: behind a fault it is in TwLost, and in TwOver and TwLost there is no step; a fault is one for good.
func TestLostAndOver(t *testing.T) {
	m, head, _ := three()
	for phase := range api.TwOver {
		s := api.TwinEdit{Phase: phase, Head: 18, Node: api.Twin{At: 18, Key: 1, Value: 2}, Prev: 18, Next: 18}
		n, got := mustStep(t, m, s)
		s.Phase = api.TwLost
		if got != s || !n.Fault || !slices.Equal(n.Words, m.Words) {
			t.Errorf("in %d: %v, %v", phase, n, got)
		}
		for _, end := range []int{api.TwOver, api.TwLost} {
			s.Phase, s.Head = end, head
			if is, got := mustStep(t, n, s); got != s || !same(is, n) {
				t.Errorf("in %d: %v, %v", end, is, got)
			}
		}
	}
}

// P16.3: no list is asked for: a node that is put on itself, and on its head.
func TestOnItself(t *testing.T) {
	for head := range uint64(8) {
		for at := range uint64(8) {
			for prev := range uint64(8) {
				m := live(11)
				clear(m.Words)
				s := double.Put(head, prev, api.Twin{At: at, Key: 3, Value: 2})
				for range 8 {
					m, s = mustStep(t, m, s)
				}
				if s.Phase != api.TwOver || m.Fault {
					t.Fatalf("%v in %v", s, m)
				}
				s = double.Cut(head, at)
				for range 5 {
					m, s = mustStep(t, m, s)
				}
				if s.Phase != api.TwOver || m.Fault {
					t.Fatalf("%v in %v", s, m)
				}
			}
		}
	}
}

// P16.3: what may not be: a phase that is none, whatever else there is.
func TestNoPhase(t *testing.T) {
	m, head, l := three()
	for _, phase := range []int{math.MinInt, -1 << 32, -11, -2, -1, 11, 12, 13, 256, 1 << 32, 1<<32 + 1, math.MaxInt} {
		for _, s := range []api.TwinEdit{{Phase: phase, Cuts: true, Head: head, Node: l[0]}, {Phase: phase, Head: 99, Prev: 99, Next: 99}, {Phase: phase}} {
			n, got, e := double.Step(m, s)
			if e != api.ErrTwin || !empty(n) || got != (api.TwinEdit{}) {
				t.Errorf("Step in %d: %v, %v, %d", phase, n, got, e)
			}
		}
	}
}

// P16.3: all that may be, by chance, step by step, of two in one memory.
func TestRowsOfSteps(t *testing.T) {
	c := chance(163)
	faults, overs := 0, 0
	for range 4000 {
		m := live(5 + c.below(14))
		for at := range m.Words {
			m.Words[at] = uint64(c.below(len(m.Words) - 3))
			if c.below(24) == 0 {
				m = without(m, uint64(at))
			}
		}
		some := func() uint64 {
			if c.below(60) == 0 {
				return of(&c, places(len(m.Words))...)
			}
			return uint64(c.below(len(m.Words) - 3))
		}
		one := func() api.TwinEdit {
			return api.TwinEdit{Phase: c.below(9), Cuts: c.below(2) == 0, Head: some(), Node: api.Twin{At: some(), Key: some(), Value: some()}, Prev: some(), Next: some()}
		}
		a, b := one(), one()
		for range 10 {
			m, a = mustStep(t, m, a)
			m, b = mustStep(t, m, b)
		}
		if m.Fault {
			faults++
		}
		if a.Phase == api.TwOver && b.Phase == api.TwOver {
			overs++
		}
	}
	if faults < 300 || overs < 300 {
		t.Errorf("%d faults, %d over", faults, overs)
	}
}
