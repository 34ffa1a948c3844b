package spin_test

import (
	"math"
	"slices"
	"testing"

	"afterglow/api"
	"afterglow/memory"
	"afterglow/spin"
)

// P5.3: a step in each phase, of words that are live, and of such as are not.
func TestStep(t *testing.T) {
	for _, c := range []struct {
		was string
		s   api.Spin
		is  string
		to  api.Spin
	}{
		{"72", api.Spin{}, "72", api.Spin{Phase: api.SpTake, Ticket: 7}},
		{"72", api.Spin{Phase: api.SpTake, Ticket: 7}, "82", api.Spin{Phase: api.SpWait, Ticket: 7}},
		{"72", api.Spin{Phase: api.SpTake, Ticket: 6}, "72", api.Spin{}},
		{"72", api.Spin{Phase: api.SpTake, Ticket: 2}, "72", api.Spin{}},
		{"72", api.Spin{Phase: api.SpWait, Ticket: 2}, "72", api.Spin{Phase: api.SpHeld, Ticket: 2}},
		{"72", api.Spin{Phase: api.SpWait, Ticket: 3}, "72", api.Spin{Phase: api.SpWait, Ticket: 3}},
		{"72", api.Spin{Phase: api.SpWait, Ticket: 7}, "72", api.Spin{Phase: api.SpWait, Ticket: 7}},
		{"72", api.Spin{Phase: api.SpHeld, Ticket: 2}, "72", api.Spin{Phase: api.SpHeld, Ticket: 2}},
		{"72", api.Spin{Phase: api.SpLeave, Ticket: 2}, "73", api.Spin{Phase: api.SpDone, Ticket: 2}},
		{"72", api.Spin{Phase: api.SpLeave, Ticket: 5}, "76", api.Spin{Phase: api.SpDone, Ticket: 5}},
		{"72", api.Spin{Phase: api.SpDone, Ticket: 2}, "72", api.Spin{Phase: api.SpDone, Ticket: 2}},
		{"1x725", api.Spin{At: 2, Phase: api.SpTake, Ticket: 7}, "1x825", api.Spin{At: 2, Phase: api.SpWait, Ticket: 7}},
		{"1x725", api.Spin{At: 2, Phase: api.SpLeave, Ticket: 2}, "1x735", api.Spin{At: 2, Phase: api.SpDone, Ticket: 2}},
		{".2", api.Spin{}, ".2!", api.Spin{}},
		{"x2", api.Spin{}, "x2!", api.Spin{}},
		{"7x", api.Spin{}, "7x", api.Spin{Phase: api.SpTake, Ticket: 7}},
		{".2", api.Spin{Phase: api.SpTake}, ".2!", api.Spin{}},
		{"x2", api.Spin{Phase: api.SpTake, Ticket: api.Poison}, "x2!", api.Spin{}},
		{"7.", api.Spin{Phase: api.SpWait}, "7.!", api.Spin{Phase: api.SpWait}},
		{"7x", api.Spin{Phase: api.SpWait, Ticket: api.Poison}, "7x!", api.Spin{Phase: api.SpWait, Ticket: api.Poison}},
		{"7x", api.Spin{Phase: api.SpHeld}, "7x", api.Spin{Phase: api.SpHeld}},
		{"7x", api.Spin{Phase: api.SpLeave, Ticket: 4}, "7x!", api.Spin{Phase: api.SpLeave, Ticket: 4}},
		{"7x", api.Spin{Phase: api.SpDone}, "7x", api.Spin{Phase: api.SpDone}},
		{"72", api.Spin{At: 1}, "72", api.Spin{At: 1, Phase: api.SpTake, Ticket: 2}},
		{"72", api.Spin{At: 1, Phase: api.SpWait}, "72!", api.Spin{At: 1, Phase: api.SpWait}},
		{"72", api.Spin{At: 2}, "72!", api.Spin{At: 2}},
	} {
		was := spell(c.was)
		m, s, e := spin.Step(was, c.s)
		if e != api.OK || show(m) != c.is || s != c.to {
			t.Errorf("Step(%s, %v): %s, %v, %d, not %s, %v", c.was, c.s, show(m), s, e, c.is, c.to)
		}
		if m, s, e = spin.Step(faulty(was), c.s); e != api.OK || !m.Fault || s != c.to {
			t.Errorf("Step(%s!, %v): %s, %v, %d", c.was, c.s, show(m), s, e)
		}
	}
}

// P5.3: all phases and edges, by what the chapter says line by line.
func TestStepAll(t *testing.T) {
	for _, live := range []string{"000", "x00", "0x0", "00x", "0.x", "..."} {
		for _, first := range values() {
			for _, second := range values() {
				m := spell(live)
				for i, w := range []uint64{first, second, first} {
					if m.Live[i] {
						m.Words[i] = w
					}
				}
				for _, ticket := range values() {
					for phase := api.SpAsk; phase <= api.SpDone; phase++ {
						stepAsPlain(t, m, api.Spin{At: int(ticket % 4), Phase: phase, Ticket: ticket})
						stepAsPlain(t, m, api.Spin{At: 1, Phase: phase, Ticket: ticket})
					}
				}
			}
		}
	}
}

func stepAsPlain(t *testing.T, m api.Memory, s api.Spin) {
	t.Helper()
	if s.Phase == api.SpAsk {
		s.Ticket = 0
	}
	p := plainOf(m, s)
	p.step(0)
	if n, to, e := spin.Step(m, s); e != api.OK || to != p.places[0] || !p.is(m, n) {
		t.Fatalf("Step(%v, %v): %v, %v, %d, not %v", m, s, n, to, e, p.places[0])
	}
}

// P5.3: what may not be a memory is told ahead of one who may not be.
func TestStepWrong(t *testing.T) {
	for _, m := range noMemories() {
		for _, s := range append(noSpins(), api.Spin{}, api.Spin{Phase: api.SpDone}) {
			if n, to, e := spin.Step(m, s); e != api.ErrMemory || !empty(n) || to != (api.Spin{}) {
				t.Errorf("Step of %d words, %v: %s, %v, %d", len(m.Words), s, show(n), to, e)
			}
		}
	}
	for _, m := range []api.Memory{spell("00"), faulty(spell("00")), spell("x")} {
		for _, s := range noSpins() {
			if n, to, e := spin.Step(m, s); e != api.ErrSpin || !empty(n) || to != (api.Spin{}) {
				t.Errorf("Step(%s, %v): %s, %v, %d", show(m), s, show(n), to, e)
			}
		}
	}
}

// P5.3: what is handed in stays as it is, and is not kept, where there is no step, too.
func TestStepApart(t *testing.T) {
	for phase := api.SpAsk; phase <= api.SpDone; phase++ {
		for at := range 4 {
			apart(t, spell("00x1"), func(m api.Memory) api.Memory {
				n, _, _ := spin.Step(m, api.Spin{At: at, Phase: phase})
				return n
			})
		}
	}
}

// P5.4: the chapter's examples, and what lies beside them.
func TestPlay(t *testing.T) {
	two := []api.Spin{{}, {}}
	for _, c := range []struct {
		was   string
		l     []api.Spin
		picks []int
		is    string
		to    []api.Spin
		held  []int
	}{
		{"00", two, []int{0, 1, 0, 1}, "10", []api.Spin{{Phase: api.SpWait}, {}}, nil},
		{"00", two, []int{0, 1, 0, 1, 1, 1, 1, 0}, "20", []api.Spin{{Phase: api.SpHeld}, {Phase: api.SpWait, Ticket: 1}}, []int{0}},
		{"00", two, []int{0, 1, 0, 1, 1, 1, 1, 0, 0, 1, 1}, "22", []api.Spin{{Phase: api.SpDone}, {Phase: api.SpDone, Ticket: 1}}, []int{0, 1}},
		{"00", two, nil, "00", two, nil},
		{"00", nil, nil, "00", nil, nil},
		{"00", nil, []int{0, 1, -1}, "00", nil, nil},
		// A pick of nobody there is passed over; those behind it are not.
		{"00", two, []int{2, -1, 0, math.MinInt, math.MaxInt, 0, 5, 0}, "10", []api.Spin{{Phase: api.SpHeld}, {}}, []int{0}},
		// Who held the lock ahead of the picks did not come into it; its leaving is its step.
		{"10", []api.Spin{{Phase: api.SpHeld}}, []int{0}, "11", []api.Spin{{Phase: api.SpDone}}, nil},
		{"10", []api.Spin{{Phase: api.SpHeld}}, nil, "10", []api.Spin{{Phase: api.SpHeld}}, nil},
		{"10", []api.Spin{{Phase: api.SpLeave}}, []int{0}, "11", []api.Spin{{Phase: api.SpDone}}, nil},
		{"10", []api.Spin{{Phase: api.SpWait}}, []int{0}, "10", []api.Spin{{Phase: api.SpHeld}}, []int{0}},
		{"10", []api.Spin{{Phase: api.SpWait}, {Phase: api.SpDone}}, []int{1, 1, 0, 1, 0, 0}, "11", []api.Spin{{Phase: api.SpDone}, {Phase: api.SpDone}}, []int{0}},
		// Two who have one ticket (no lock makes that) both come into it; and again one who waits behind that.
		{"20", []api.Spin{{Phase: api.SpWait, Ticket: 1}, {Phase: api.SpWait}, {Phase: api.SpWait}}, []int{2, 0, 1, 2, 0}, "21", []api.Spin{{Phase: api.SpHeld, Ticket: 1}, {Phase: api.SpHeld}, {Phase: api.SpDone}}, []int{2, 1, 0}},
		// Who leaves where no word is live stays there.
		{"1x", []api.Spin{{Phase: api.SpHeld}}, []int{0}, "1x!", []api.Spin{{Phase: api.SpLeave}}, nil},
		{"1x", []api.Spin{{Phase: api.SpWait}}, []int{0, 0}, "1x!", []api.Spin{{Phase: api.SpWait}}, nil},
		// Locks beside each other, and one in the other.
		{"0000", []api.Spin{{At: 2}, {}}, []int{0, 1, 0, 1, 1, 0}, "1010", []api.Spin{{At: 2, Phase: api.SpHeld}, {Phase: api.SpHeld}}, []int{1, 0}},
		{"000", []api.Spin{{At: 1}, {}}, []int{0, 0, 1, 1, 1}, "110", []api.Spin{{At: 1, Phase: api.SpWait}, {Phase: api.SpWait}}, nil},
	} {
		m, l, held, e := spin.Play(spell(c.was), c.l, c.picks...)
		if e != api.OK || show(m) != c.is || !slices.Equal(l, c.to) || !slices.Equal(held, c.held) {
			t.Errorf("Play(%s, %v; %v): %s, %v, %v, %d, not %s, %v, %v", c.was, c.l, c.picks, show(m), l, held, e, c.is, c.to, c.held)
		}
	}
}

func playAsPlain(t *testing.T, m api.Memory, l []api.Spin, picks []int) {
	t.Helper()
	p := plainOf(m, l...)
	for _, pick := range picks {
		p.pick(pick)
	}
	n, to, held, e := spin.Play(m, l, picks...)
	if e != api.OK || !slices.Equal(to, p.places) || !slices.Equal(held, p.held) || !p.is(m, n) {
		t.Fatalf("Play(%s, %v; %v): %s, %v, %v, %d, not %v, %v", show(m), l, picks, show(n), to, held, e, p.places, p.held)
	}
}

// P5.4: all short rows of picks, from all phases on, and long rows of some, by what the chapter says line by line.
func TestPlayMany(t *testing.T) {
	for picks := range rows(-1, 2, 6) {
		playAsPlain(t, spell("00"), []api.Spin{{}, {}}, picks)
		playAsPlain(t, spell("31"), []api.Spin{{Phase: api.SpHeld, Ticket: 1}, {Phase: api.SpWait, Ticket: 2}}, picks)
	}
	c := chance(54)
	for range 4000 {
		text := make([]byte, 2+c.below(5))
		for i := range text {
			text[i] = "00001112.x"[c.below(10)]
		}
		l := c.someSpins(len(text), c.below(6))
		playAsPlain(t, spell(string(text)), l, c.somePicks(len(l), c.below(60)))
	}
}

// P5.4: a play is one step behind the other, whatever is played at once.
func TestPlayInParts(t *testing.T) {
	c := chance(55)
	for range 300 {
		l := c.someSpins(3, 1+c.below(5))
		picks := c.somePicks(len(l), 40)
		m, to, held, e := spin.Play(spell("0000"), l, picks...)
		if e != api.OK {
			t.Fatal(e)
		}
		n, at, came, begun := spell("0000"), l, []int(nil), 0
		for begun < len(picks) {
			many := min(c.below(6), len(picks)-begun)
			var some []int
			n, at, some, e = spin.Play(n, at, picks[begun:begun+many]...)
			if e != api.OK {
				t.Fatal(e)
			}
			came, begun = append(came, some...), begun+many
		}
		if !memory.Same(m, n) || !slices.Equal(to, at) || !slices.Equal(held, came) {
			t.Fatalf("Play(0000, %v; %v): %v, %v, in parts %v, %v", l, picks, to, held, at, came)
		}
	}
}

// P5.4: what may not be a memory goes ahead of one who may not be, whoever that is.
func TestPlayWrong(t *testing.T) {
	good := api.Spin{Phase: api.SpWait}
	ask := func(m api.Memory, want api.Errno, l ...api.Spin) {
		t.Helper()
		for _, picks := range [][]int{nil, {0}, {-1, 9}, {0, 1, 0, 1, 0, 1}} {
			if n, to, held, e := spin.Play(m, l, picks...); e != want || !empty(n) || len(to) != 0 || len(held) != 0 {
				t.Errorf("Play(%s, %v; %v): %s, %v, %v, %d, not %d", show(m), l, picks, show(n), to, held, e, want)
			}
		}
	}
	for _, s := range noSpins() {
		for _, l := range [][]api.Spin{{s}, {s, good}, {good, s}, {good, good, s, good}, {s, s}} {
			ask(spell("00"), api.ErrSpin, l...)
			ask(noMemories()[4], api.ErrMemory, l...)
		}
	}
	for _, m := range noMemories() {
		ask(m, api.ErrMemory)
		ask(m, api.ErrMemory, good)
	}
}

// P5.4: what is handed in stays as it is, and what is told shares with nothing.
func TestPlayApart(t *testing.T) {
	for _, picks := range [][]int{nil, {0, 1, 0, 1, 0, 2, 2, 2}, {1, 1, 1, 0, 0, 1, 1}} {
		apart(t, spell("00x1"), func(m api.Memory) api.Memory {
			n, _, _, _ := spin.Play(m, []api.Spin{{}, {}, {At: 2}}, picks...)
			return n
		})
	}
	l := roomy([]api.Spin{{}, {}, {At: 2}}, api.Spin{Phase: 9}, api.Spin{At: 7})
	picks := roomy([]int{0, 1, 0, 0, 1, 2}, 0, 0, 0)
	places, picked := whole(l), whole(picks)
	_, first, held, _ := spin.Play(spell("00x1"), l, picks...)
	_, second, came, _ := spin.Play(spell("00x1"), l, picks...)
	if !slices.Equal(whole(l), places) || !slices.Equal(whole(picks), picked) {
		t.Errorf("what is handed in is changed: %v, %v", whole(l), whole(picks))
	}
	want := []api.Spin{{Phase: api.SpHeld}, {}, {At: 2}}
	if !slices.Equal(second, want) || !slices.Equal(came, []int{0}) {
		t.Fatalf("Play: %v, %v", second, came)
	}
	scrub(l, api.Spin{At: -7})
	scrub(first, api.Spin{At: -8})
	scrub(picks, -7)
	scrub(held, -8)
	if !slices.Equal(second, want) || !slices.Equal(came, []int{0}) {
		t.Errorf("what is told is shared: %v, %v", second, came)
	}
}
