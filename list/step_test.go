package list_test

import (
	"math"
	"slices"
	"testing"

	"afterglow/api"
	"afterglow/list"
)

// P15.2: who seeks, puts, and cuts, at first, whatever is handed in.
func TestAtFirst(t *testing.T) {
	for _, a := range values() {
		for _, b := range values() {
			if s := list.Seek(a, b, 7); s != (api.Seek{Phase: 0, Hash: b, Key: 7, Link: a}) {
				t.Errorf("Seek(%d, %d, 7): %v", a, b, s)
			}
			if s := list.Seek(8, a, b); s != (api.Seek{Phase: 0, Hash: a, Key: b, Link: 8}) {
				t.Errorf("Seek(8, %d, %d): %v", a, b, s)
			}
			n := api.Node{At: b, Key: 1, Value: a, Hash: 3}
			if e := list.Put(a, n, 7); e != (api.Edit{Phase: 0, Link: a, Node: n, Next: 7}) {
				t.Errorf("Put(%d, %v, 7): %v", a, n, e)
			}
			if e := list.Put(8, n, a); e != (api.Edit{Phase: 0, Link: 8, Node: n, Next: a}) {
				t.Errorf("Put(8, %v, %d): %v", n, a, e)
			}
			if e := list.Cut(a, b); e != (api.Edit{Phase: 4, Cuts: true, Link: a, Node: api.Node{At: b}}) {
				t.Errorf("Cut(%d, %d): %v", a, b, e)
			}
		}
	}
}

// mustSeek fails unless a step is as the chapter's table says.
func mustSeek(t *testing.T, m api.Memory, s api.Seek) (api.Memory, api.Seek) {
	t.Helper()
	p := plainOf(m)
	want := p.seek(s)
	n, got, e := list.StepSeek(m, s)
	if e != api.OK || got != want || !same(n, p.in(m)) {
		t.Fatalf("StepSeek(%v, %v): %v, %v, %d, not %v", m, s, n, got, e, want)
	}
	return n, got
}

func mustEdit(t *testing.T, m api.Memory, s api.Edit) (api.Memory, api.Edit) {
	t.Helper()
	p := plainOf(m)
	want := p.edit(s)
	n, got, e := list.StepEdit(m, s)
	if e != api.OK || got != want || !same(n, p.in(m)) {
		t.Fatalf("StepEdit(%v, %v): %v, %v, %d, not %v", m, s, n, got, e, want)
	}
	return n, got
}

// steppers are memories in which steps are made: some words are free in each.
func steppers() []api.Memory {
	m := live(11)
	for i := range m.Words {
		m.Words[i] = uint64(i % 4)
	}
	great := live(api.MaxWords)
	return []api.Memory{m, faulty(m), without(m, 4), without(without(m, 0), 10), live(1), without(great, 0), without(great, api.MaxWords-1)}
}

// P15.3: a step of who seeks, in each phase, at each place, the edges among them.
func TestStepSeek(t *testing.T) {
	for _, m := range steppers() {
		for _, at := range places(min(len(m.Words), 20)) {
			for phase := range api.SkLost + 1 {
				mustSeek(t, m, api.Seek{Phase: phase, Hash: 2, Key: 1, Link: at, Node: 3})
				mustSeek(t, m, api.Seek{Phase: phase, Hash: 2, Key: 1, Link: 3, Node: at, Value: 8, Found: true})
			}
		}
	}
}

// P15.3: what is held against what is sought, at the edges.
func TestLessAndMore(t *testing.T) {
	for _, held := range values() {
		for _, sought := range values() {
			m := lay(12, 0, api.Node{At: 5, Key: held, Value: held, Hash: held})
			for phase := range api.SkLost + 1 {
				for _, s := range []api.Seek{{Hash: sought, Key: 5}, {Hash: 5, Key: sought}, {Hash: sought, Key: sought, Value: 3, Found: true}} {
					s.Phase, s.Link, s.Node = phase, 0, 5
					mustSeek(t, m, s)
				}
			}
		}
	}
}

// P15.3: a step of who changes, in each phase, whether it cuts or not, at each place.
func TestStepEdit(t *testing.T) {
	for _, m := range steppers() {
		for _, at := range places(min(len(m.Words), 20)) {
			for phase := range api.EdLost + 1 {
				for _, cuts := range []bool{false, true} {
					n := api.Node{At: 3, Key: 71, Value: 72, Hash: 73}
					mustEdit(t, m, api.Edit{Phase: phase, Cuts: cuts, Link: at, Node: n, Next: 74})
					n.At = at
					mustEdit(t, m, api.Edit{Phase: phase, Cuts: cuts, Link: 3, Node: n, Next: 74})
				}
			}
		}
	}
}

// P15.3: a step at the word on which one stands by itself.
func TestOnItself(t *testing.T) {
	m := live(6)
	for _, at := range []uint64{0, 1, 2, 3} {
		e := api.Edit{Phase: api.EdKey, Link: at + 2, Node: api.Node{At: at, Key: 1, Value: 2, Hash: 3}, Next: at}
		for range 6 {
			m, e = mustEdit(t, m, e)
		}
		if at < 3 && (e.Phase != api.EdOver || m.Words[at+2] != at) || at == 3 && e.Phase != api.EdLost {
			t.Errorf("at %d: %v, %v", at, m, e)
		}
	}
}

// P15.3: what may not be: a phase that is none, whatever else there is.
func TestNoPhase(t *testing.T) {
	m, head, l := three()
	for _, phase := range []int{math.MinInt, -1 << 32, -6, -2, -1, 6, 7, 8, 9, 256, 1 << 32, 1<<32 + 1, math.MaxInt} {
		n, s, e := list.StepSeek(m, api.Seek{Phase: phase, Link: head, Node: 5, Hash: 1, Key: 9})
		if e != api.ErrSeek || !empty(n) || s != (api.Seek{}) {
			t.Errorf("StepSeek in %d: %v, %v, %d", phase, n, s, e)
		}
		if phase == api.EdOver || phase == api.EdLost {
			continue
		}
		n, d, e := list.StepEdit(m, api.Edit{Phase: phase, Link: head, Node: l[0], Cuts: true})
		if e != api.ErrSeek || !empty(n) || d != (api.Edit{}) {
			t.Errorf("StepEdit in %d: %v, %v, %d", phase, n, d, e)
		}
	}
}

// P15.3: all that may be, by chance, step by step, in a memory that is changed meanwhile.
func TestRowsOfSteps(t *testing.T) {
	c := chance(153)
	faults, overs := 0, 0
	for range 3000 {
		m := live(1 + c.below(14))
		for at := range m.Words {
			m.Words[at] = uint64(c.below(14))
			if c.below(12) == 0 {
				m = without(m, uint64(at))
			}
		}
		some := func() uint64 {
			if c.below(30) == 0 {
				return of(&c, places(len(m.Words))...)
			}
			return uint64(c.below(len(m.Words) + 1))
		}
		s := api.Seek{Phase: c.below(4), Hash: some(), Key: some(), Link: some(), Node: some()}
		e := api.Edit{Phase: c.below(6), Cuts: c.below(2) == 0, Link: some(), Node: api.Node{At: some(), Key: some(), Value: some(), Hash: some()}, Next: some()}
		for range 20 {
			was := m
			m, s = mustSeek(t, m, s)
			if !slices.Equal(was.Words, m.Words) {
				t.Fatalf("who seeks changes %v: %v", was, m)
			}
			m, e = mustEdit(t, m, e)
		}
		if m.Fault {
			faults++
		}
		if s.Phase == api.SkOver && e.Phase == api.EdOver {
			overs++
		}
	}
	if faults < 300 || overs < 300 {
		t.Errorf("%d faults, %d over", faults, overs)
	}
}
