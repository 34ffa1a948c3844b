package seq_test

import (
	"slices"
	"strings"
	"testing"

	"afterglow/api"
	"afterglow/memory"
	"afterglow/seq"
)

// newRead and newWrite are by the counter 0, from the word 1 on.
func newRead(many int) api.SeqRead {
	return api.SeqRead{From: 1, Many: many}
}

func newWrite(values ...uint64) api.SeqWrite {
	return api.SeqWrite{From: 1, Values: values}
}

// P6.5: the chapter's examples, and what lies beside them.
func TestPlay(t *testing.T) {
	type read = api.SeqRead
	seven, three := newWrite(7, 8), newWrite(3, 4)
	held := []uint64{9, 9}
	for _, c := range []struct {
		was    string
		writes []api.SeqWrite
		picks  string
		is     string
		to     read
	}{
		{"00000000", []api.SeqWrite{seven}, "wwr", "10000000", read{}},
		{"00000000", []api.SeqWrite{seven}, "wwwwwrrrr", "27800000", read{Phase: api.SqOver, Began: 2, Values: seven.Values}},
		{"00000000", []api.SeqWrite{seven}, "rrrwwwwwr", "27800000", read{Tries: 1, Values: []uint64{0, 0}}},
		{"099", nil, "", "099", read{}},
		{"099", nil, "www", "099", read{}},
		{"099", nil, "wrwrwrwr", "099", read{Phase: api.SqOver, Values: held}},
		{"099", nil, "rrrrrrr", "099", read{Phase: api.SqOver, Values: held}},
		{"199", nil, "rrrr", "199", read{}},
		{"099", []api.SeqWrite{seven, three}, "wwwwww", "278", read{}},
		{"099", []api.SeqWrite{seven, three}, "wwwwwww", "378", read{}},
		{"099", []api.SeqWrite{seven, three}, "wwwwwwwwwwwwww", "434", read{}},
		{"099", []api.SeqWrite{seven, three}, "rwrwwrwwrrwwrwwwrrrrrr", "434", read{Tries: 2, Phase: api.SqOver, Began: 4, Values: three.Values}},
		// The first write that is not over goes on, wherever it is; one that never may begin keeps all others back.
		{"199", []api.SeqWrite{seven, {From: 1, Values: three.Values, Phase: api.SqData}}, "www", "199", read{}},
		{"199", []api.SeqWrite{{From: 1, Values: seven.Values, Phase: api.SqData, Wrote: 1}, three}, "wwwwwwww", "434", read{}},
		{"099", []api.SeqWrite{{From: 1, Values: seven.Values, Phase: api.SqOver, Wrote: 2}, {From: 1, Values: seven.Values, Phase: api.SqLost}, three}, "wwr", "199", read{}},
		{"099", []api.SeqWrite{{From: 1, Values: seven.Values, Phase: api.SqLost}}, "wwr", "099", read{Phase: api.SqData}},
		// What is lost is passed over from the next pick on.
		{"09x", []api.SeqWrite{seven, three}, "wwww", "17x!", read{}},
		{"09x", []api.SeqWrite{seven, {At: 1, From: 0, Values: []uint64{4}}}, "wwwwwwwwwwww", "17x!", read{}},
		{"099", []api.SeqWrite{{At: 3, From: 1, Values: []uint64{5}}, seven}, "www", "199!", read{}},
		{"x99", []api.SeqWrite{seven, three}, "ww", "x99!", read{}},
		{"0x9", nil, "rrrr", "0x9!", read{Phase: api.SqLost}},
		{"09x!", []api.SeqWrite{three}, "rrrwwww", "13x!", read{Phase: api.SqLost, Values: []uint64{9}}},
	} {
		c.to.From, c.to.Many = 1, 2
		m, s, e := seq.Play(spell(c.was), newRead(2), c.writes, picks(c.picks))
		if e != api.OK || show(m) != c.is || !sameRead(s, c.to) {
			t.Errorf("Play(%s, %v; %s): %s, %v, %d, not %s, %v", c.was, c.writes, c.picks, show(m), s, e, c.is, c.to)
		}
	}
}

func playAsPlain(t *testing.T, m api.Memory, r api.SeqRead, writes []api.SeqWrite, picks []bool) {
	t.Helper()
	p := plainOf(m, r, writes...)
	for _, pick := range picks {
		p.pick(pick)
	}
	n, to, e := seq.Play(m, r, writes, picks)
	if e != api.OK || !sameRead(to, p.read) || !p.is(m, n) {
		t.Fatalf("Play(%v, %v, %v; %v): %v, %v, %d, not %v", m, r, writes, picks, n, to, e, p.read)
	}
}

// P6.5: all rows of picks of a length, and long rows of some, from all phases on, by what the chapter says line by line.
func TestPlayMany(t *testing.T) {
	for l := range rows(12) {
		playAsPlain(t, spell("099"), newRead(2), []api.SeqWrite{newWrite(7, 8), newWrite(3)}, l)
		playAsPlain(t, spell("2099"), newRead(3), []api.SeqWrite{newWrite(7, 8, 6)}, l)
	}
	c := chance(62)
	for range 6000 {
		m := c.someMemory(7)
		var writes []api.SeqWrite
		for range c.below(5) {
			writes = append(writes, c.someWrite(len(m.Words)))
		}
		playAsPlain(t, m, c.someRead(len(m.Words)), writes, c.somePicks(c.below(60), 1+c.below(9)))
	}
}

// P6.5: a play is one step behind the other, as StepRead and StepWrite make them.
func TestPlayBySteps(t *testing.T) {
	c := chance(63)
	for range 1000 {
		m := c.someMemory(7)
		r := c.someRead(len(m.Words))
		writes := []api.SeqWrite{c.someWrite(len(m.Words)), c.someWrite(len(m.Words)), newWrite(7, 8)}
		l := c.somePicks(40, 5)
		n, to, e := seq.Play(m, r, writes, l)
		if e != api.OK {
			t.Fatal(e)
		}
		at, by, left := m, r, slices.Clone(writes)
		for _, pick := range l {
			for len(left) > 0 && left[0].Phase >= api.SqOver {
				left = left[1:]
			}
			switch {
			case pick:
				at, by, e = seq.StepRead(at, by)
			case len(left) > 0:
				at, left[0], e = seq.StepWrite(at, left[0])
			}
			if e != api.OK {
				t.Fatal(e)
			}
		}
		if !memory.Same(at, n) || !sameRead(to, by) {
			t.Fatalf("Play(%v, %v, %v; %v): %v, %v, by steps %v, %v", m, r, writes, l, n, to, at, by)
		}
	}
}

// P6.5: many picks, and many writes, in the greatest memory.
func TestPlayLong(t *testing.T) {
	const many = 40000
	m := great()
	var writes []api.SeqWrite
	for i := range many {
		writes = append(writes, api.SeqWrite{At: 4095, From: 4000, Values: []uint64{uint64(i), uint64(i)}})
	}
	r := api.SeqRead{At: 4095, From: 4000, Many: 2}
	n, s, e := seq.Play(m, r, writes, picks(strings.Repeat("rwwwwwr", many)+"rrrr"))
	if e != api.OK || n.Fault || n.Words[4095] != 2*many || s.Phase != api.SqOver || s.Values[0] != s.Values[1] {
		t.Errorf("%v, %d: %d", s, e, n.Words[4095])
	}
}

// P6.5: what may not be a memory goes ahead of a read, or a write, that may not be, whichever that is, picked or not.
func TestPlayWrong(t *testing.T) {
	over := api.SeqWrite{From: 1, Values: []uint64{7}, Phase: api.SqOver, Wrote: 1}
	good, write := newRead(2), newWrite(7, 8)
	ask := func(m api.Memory, want api.Errno, r api.SeqRead, writes ...api.SeqWrite) {
		t.Helper()
		for _, text := range []string{"", "r", "w", "rwrwrwwwrr"} {
			if n, s, e := seq.Play(m, r, writes, picks(text)); e != want || !empty(n) || !sameRead(s, api.SeqRead{}) {
				t.Errorf("Play(%s, %v, %v; %s): %s, %v, %d, not %d", show(m), r, writes, text, show(n), s, e, want)
			}
		}
	}
	for _, r := range noReads() {
		ask(spell("0000"), api.ErrSeq, r)
		ask(spell("0000!"), api.ErrSeq, r, write, over)
		ask(noMemories()[4], api.ErrMemory, r)
	}
	for _, w := range noWrites() {
		for _, l := range [][]api.SeqWrite{{w}, {w, write}, {write, w}, {over, w, over}, {w, w}} {
			ask(spell("0000"), api.ErrSeq, good, l...)
			ask(noMemories()[4], api.ErrMemory, good, l...)
		}
	}
	for _, m := range noMemories() {
		ask(m, api.ErrMemory, good)
		ask(m, api.ErrMemory, good, write)
	}
}

// P6.5: what is handed in stays as it is, and what is told shares with nothing.
func TestPlayApart(t *testing.T) {
	for _, text := range []string{"", "r", "rrr", "rrrr", "wwwww", "rrrwwwwwr", "rrrwwwwwrrrrrr"} {
		l := roomy(picks(text), true, true)
		values := roomyValues([]uint64{7, 8})
		writes := roomy([]api.SeqWrite{newWrite(values...), newWrite(values...)}, newWrite(1), newWrite(2))
		picked, wrote := whole(l), whole(values)
		for have := range 3 {
			keepsApart(t, spell("09x90"), []uint64{4, 5}[:have], func(m api.Memory, values []uint64) (api.Memory, []uint64) {
				r := api.SeqRead{From: 3, Many: 2, Phase: []int{api.SqBegin, api.SqData, api.SqClose}[have], Values: values}
				n, s, e := seq.Play(m, r, writes, l)
				if e != api.OK {
					t.Fatal(e)
				}
				return n, s.Values
			})
		}
		if !slices.Equal(whole(l), picked) || !slices.Equal(whole(values), wrote) || !slices.Equal(writes[0].Values, []uint64{7, 8}) {
			t.Errorf("what is handed in is changed: %v, %v", whole(l), whole(values))
		}
		for i, w := range whole(writes)[:4] {
			want := []api.SeqWrite{newWrite(7, 8), newWrite(7, 8), newWrite(1), newWrite(2)}[i]
			if !sameWrite(w, want) {
				t.Errorf("what is handed in is changed: %v, not %v", w, want)
			}
		}
	}
}
