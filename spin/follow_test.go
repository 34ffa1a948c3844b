package spin_test

import (
	"slices"
	"testing"

	"afterglow/api"
	"afterglow/memory"
	"afterglow/spin"
)

const mostAsk = 3

// all is a lock, and where those are who want it.
type all struct {
	next, owner uint64
	places      [mostAsk]api.Spin
}

func (a all) memory() api.Memory {
	return api.Memory{Words: []uint64{a.next, a.owner}, Live: []bool{true, true}}
}

// behind is all behind one's step; in SpHeld it leaves, and makes its step another time.
func (a all) behind(t *testing.T, who int) all {
	t.Helper()
	if a.places[who].Phase == api.SpHeld {
		s, e := spin.Leave(a.places[who])
		if e != api.OK {
			t.Fatal(e)
		}
		a.places[who] = s
		return a
	}
	m, s, e := spin.Step(a.memory(), a.places[who])
	if e != api.OK || m.Fault {
		t.Fatalf("Step(%v) of %d: %d", a, who, e)
	}
	a.next, a.owner, a.places[who] = m.Words[0], m.Words[1], s
	return a
}

// inside is who is in SpHeld, or in SpLeave.
func (a all) inside() []int {
	var l []int
	for who, s := range a.places {
		if s.Phase == api.SpHeld || s.Phase == api.SpLeave {
			l = append(l, who)
		}
	}
	return l
}

// mustBeInTurn fails unless one at most is inside, the tickets that are taken are those from the first on, each once, and they have the lock in their order.
func (a all) mustBeInTurn(t *testing.T) {
	t.Helper()
	in := a.inside()
	if len(in) > 1 {
		t.Fatalf("%v: %v are inside", a, in)
	}
	var taken []uint64
	for _, s := range a.places {
		if s.Phase < api.SpWait {
			continue
		}
		taken = append(taken, s.Ticket)
		if done := s.Phase == api.SpDone; done != (s.Ticket < a.owner) {
			t.Fatalf("%v: the owner is %d", a, a.owner)
		}
		if len(in) > 0 && (s.Ticket < a.places[in[0]].Ticket) != (s.Phase == api.SpDone) {
			t.Fatalf("%v: out of turn", a)
		}
	}
	slices.Sort(taken)
	for i, ticket := range taken {
		if ticket != uint64(i) {
			t.Fatalf("%v: the tickets are %v", a, taken)
		}
	}
	if a.next != uint64(len(taken)) {
		t.Fatalf("%v: of %v, %d is next", a, taken, a.next)
	}
}

// P5.5: all that can be, whoever of so many steps when: one at most has the lock, in the order of tickets; and from all of it all come to be done.
func TestWhoeverSteps(t *testing.T) {
	m, e := spin.Lay(spell("89"), 0)
	if e != api.OK {
		t.Fatal(e)
	}
	first := all{next: m.Words[0], owner: m.Words[1]}
	for who := range first.places {
		first.places[who] = spin.Ask(0)
	}
	met := map[all]bool{first: true}
	for left := []all{first}; len(left) > 0; {
		a := left[0]
		left = left[1:]
		a.mustBeInTurn(t)
		mustEnd(t, a)
		for who := range a.places {
			if b := a.behind(t, who); !met[b] {
				met[b] = true
				left = append(left, b)
			}
		}
	}
	if len(met) < 100 {
		t.Errorf("only %d were met", len(met))
	}
}

// mustEnd picks all in turn: they are done, and who had not had the lock yet had it once.
func mustEnd(t *testing.T, a all) {
	t.Helper()
	var want []int
	for who, s := range a.places {
		if s.Phase < api.SpHeld {
			want = append(want, who)
		}
	}
	_, l, held, e := spin.Play(a.memory(), a.places[:], slices.Repeat([]int{0, 1, 2}, 30)...)
	if e != api.OK {
		t.Fatal(e)
	}
	for _, s := range l {
		if s.Phase != api.SpDone {
			t.Fatalf("%v comes to %v", a, l)
		}
	}
	slices.Sort(held)
	if !slices.Equal(held, want) {
		t.Fatalf("%v: %v had the lock", a, held)
	}
}

// P5.5: of many, picked in long rows by chance: who took tickets in which order has the lock in that order, each once.
func TestInOrder(t *testing.T) {
	c := chance(51)
	for range 200 {
		many := 1 + c.below(12)
		m, l := spell("x89."), []api.Spin(nil)
		m, _ = spin.Lay(m, 1)
		for range many {
			l = append(l, spin.Ask(1))
		}
		var took, held []int
		for done, picked := 0, 0; done < many; picked++ {
			if picked > 100000 {
				t.Fatalf("after %d picks %d of %d are done", picked, done, many)
			}
			pick, was := c.below(many), slices.Clone(l)
			var came []int
			m, l, came, _ = spin.Play(m, l, pick)
			if was[pick].Phase == api.SpTake && l[pick].Phase == api.SpWait {
				took = append(took, pick)
			}
			if was[pick].Phase != api.SpDone && l[pick].Phase == api.SpDone {
				done++
			}
			held = append(held, came...)
		}
		if !slices.Equal(took, held) || len(held) != many {
			t.Fatalf("%v took tickets, %v had the lock", took, held)
		}
		if n := uint64(many); !memory.Same(m, api.Memory{Words: []uint64{api.Poison, n, n, 0}, Live: []bool{false, true, true, false}}) {
			t.Fatalf("%d had the lock: %v", many, m)
		}
	}
}

// P5.5: so it goes on where tickets pass the greatest number, and begin at 0 again.
func TestTicketsPass(t *testing.T) {
	m := api.Memory{Words: []uint64{wholeWord - 1, wholeWord - 1}, Live: []bool{true, true}}
	l := []api.Spin{spin.Ask(0), spin.Ask(0), spin.Ask(0), spin.Ask(0)}
	m, l, held, e := spin.Play(m, l, 3, 3, 1, 1, 2, 2, 0, 0, 0, 1, 2, 3, 3, 2, 1, 1, 0, 2, 2, 0, 0)
	want := []api.Spin{{Phase: api.SpDone, Ticket: 1}, {Phase: api.SpDone, Ticket: wholeWord}, {Phase: api.SpDone}, {Phase: api.SpDone, Ticket: wholeWord - 1}}
	if e != api.OK || !slices.Equal(held, []int{3, 1, 2, 0}) || !slices.Equal(l, want) || !slices.Equal(m.Words, []uint64{2, 2}) {
		t.Errorf("%v, %v, %v, %d", m, l, held, e)
	}
}

// P5.5: whoever is not picked stays where it is, and who holds the lock keeps all others from it, however often they are picked.
func TestHeldKeepsOut(t *testing.T) {
	m, _ := spin.Lay(spell("00"), 0)
	m, l, _, _ := spin.Play(m, []api.Spin{{}, {}, {}}, 1, 1, 1)
	m, l, held, e := spin.Play(m, l, slices.Repeat([]int{0, 2, 2}, 500)...)
	if e != api.OK || len(held) != 0 || l[1] != (api.Spin{Phase: api.SpHeld}) || l[0].Phase != api.SpWait || l[2].Phase != api.SpWait {
		t.Fatalf("%v, %v, %d", l, held, e)
	}
	// Who is out lets the one in who took the ticket behind: here 2, then 0.
	if _, l, held, e = spin.Play(m, l, 1, 0, 2, 0, 2, 0, 0); e != api.OK || !slices.Equal(held, []int{2, 0}) || l[0].Phase != api.SpDone || l[2].Phase != api.SpDone {
		t.Errorf("%v, %v, %d", l, held, e)
	}
}
