package seq_test

import (
	"fmt"
	"slices"
	"testing"

	"afterglow/api"
	"afterglow/memory"
	"afterglow/seq"
)

// all is a memory, a read, and writes that are made one behind the other.
type all struct {
	m      api.Memory
	read   api.SeqRead
	writes []api.SeqWrite
}

// behind is all behind a pick; the writes are others, if one of them changes.
func (a all) behind(t *testing.T, pick bool) all {
	t.Helper()
	who := slices.IndexFunc(a.writes, func(w api.SeqWrite) bool { return w.Phase < api.SqOver })
	var e api.Errno
	switch {
	case pick:
		was := a.m
		if a.m, a.read, e = seq.StepRead(a.m, a.read); !memory.Same(was, a.m) {
			t.Fatalf("a read changes %v: %v", was, a.m)
		}
	case who >= 0:
		a.writes = slices.Clone(a.writes)
		a.m, a.writes[who], e = seq.StepWrite(a.m, a.writes[who])
	}
	if e != api.OK {
		t.Fatal(e)
	}
	return a
}

// opened is how many writes have begun to change something.
func (a all) opened() int {
	many := 0
	for _, w := range a.writes {
		if w.Phase >= api.SqData {
			many++
		}
	}
	return many
}

// mustBeWhole fails unless a read that is over has all of one write, or what was there ahead of all, and it began anew once for each write at most.
func (a all) mustBeWhole(t *testing.T, first []uint64) {
	t.Helper()
	if a.read.Tries > a.opened() {
		t.Fatalf("%v began anew, though %d writes did begin", a.read, a.opened())
	}
	if a.read.Phase != api.SqOver {
		return
	}
	want := first
	if by := a.read.Began / 2; by > 0 {
		want = a.writes[by-1].Values
	}
	if !slices.Equal(a.read.Values, want) {
		t.Fatalf("%v has not %v", a.read, want)
	}
}

// mustEnd picks the writes until all are over, then the read: it is over, with what the last one wrote, or what it had.
func (a all) mustEnd(t *testing.T, last []uint64) {
	t.Helper()
	if a.read.Phase == api.SqOver {
		last = a.read.Values
	}
	l := slices.Concat(slices.Repeat([]bool{false}, 40), slices.Repeat([]bool{true}, 20))
	_, s, e := seq.Play(a.m, a.read, a.writes, l)
	if e != api.OK || s.Phase != api.SqOver || !slices.Equal(s.Values, last) {
		t.Fatalf("%v comes to %v, %d, not %v", a, s, e, last)
	}
}

// P6.6: all that can be, whoever of a read and some writes steps when.
func TestWhoeverSteps(t *testing.T) {
	for _, values := range [][][]uint64{
		{},
		{{1}, {2}, {3}, {4}},
		{{1, 2}},
		{{1, 2}, {3, 4}, {5, 6}, {7, 8}},
		{{1, 2, 3}, {4, 5, 6}, {7, 8, 9}},
		{{1, 2, 3, 4, 5}, {1, 7, 3, 9, 5}},
		{{1, 1}, {1, 1}, {2, 1}},
	} {
		many := 2
		if len(values) > 0 {
			many = len(values[0])
		}
		begin := slices.Repeat([]uint64{77}, many)
		m := api.Memory{Words: slices.Concat([]uint64{5}, begin, []uint64{0}), Live: slices.Repeat([]bool{true}, many+2)}
		a := all{m: m, read: api.SeqRead{At: many + 1, From: 1, Many: many}}
		last := begin
		for _, l := range values {
			a.writes = append(a.writes, api.SeqWrite{At: many + 1, From: 1, Values: l})
			last = l
		}
		met := map[string]bool{}
		for left := []all{a}; len(left) > 0; {
			a := left[len(left)-1]
			left = left[:len(left)-1]
			key := fmt.Sprint(a)
			if met[key] {
				continue
			}
			met[key] = true
			a.mustBeWhole(t, begin)
			a.mustEnd(t, last)
			left = append(left, a.behind(t, true), a.behind(t, false))
		}
		if least := (len(values) + 1) * (many + 3); len(met) < least {
			t.Errorf("of %v only %d were met, not %d", values, len(met), least)
		}
	}
}

// P6.6: of as many words as there can be, and many writes, by chance: what a read has is of one write, that was not over long ahead of it.
func TestNeverTorn(t *testing.T) {
	c := chance(66)
	overs := 0
	for range 400 {
		many, writes := 1+c.below(16), []api.SeqWrite(nil)
		for i := range 1 + c.below(12) {
			writes = append(writes, newWrite(slices.Repeat([]uint64{uint64(i + 1)}, many)...))
		}
		m, l := great(), c.somePicks(200+c.below(200), 3+c.below(5))
		m.Words, m.Live = m.Words[:17], m.Live[:17]
		ahead := c.below(150)
		m, _, e := seq.Play(m, newRead(many), writes, make([]bool, ahead))
		if e != api.OK {
			t.Fatal(e)
		}
		over := int(m.Words[0] / 2) // what was written ahead of the read
		m, s, e := seq.Play(spell("00000000000000000"), newRead(many), writes, slices.Concat(make([]bool, ahead), l))
		if e != api.OK || m.Fault {
			t.Fatal(e)
		}
		if s.Tries > len(writes)-over {
			t.Fatalf("%v began anew, though %d writes were left", s, len(writes)-over)
		}
		if s.Phase != api.SqOver {
			continue
		}
		overs++
		if by := s.Values[0]; by < uint64(over) || by != s.Began/2 || slices.Max(s.Values) != by || slices.Min(s.Values) != by {
			t.Fatalf("%v; %d were over ahead of it", s, over)
		}
	}
	if overs < 100 {
		t.Errorf("only %d were over", overs)
	}
}

// P6.6: so it goes on where the counter passes the greatest number.
func TestCounterPasses(t *testing.T) {
	for l := range rows(14) {
		m := api.Memory{Words: []uint64{wholeWord - 1, 9, 9}, Live: []bool{true, true, true}}
		_, s, e := seq.Play(m, newRead(2), []api.SeqWrite{newWrite(1, 2), newWrite(3, 4)}, l)
		if e != api.OK {
			t.Fatal(e)
		}
		if s.Phase != api.SqOver {
			continue
		}
		want, there := map[uint64][]uint64{wholeWord - 1: {9, 9}, 0: {1, 2}, 2: {3, 4}}[s.Began]
		if !there || !slices.Equal(s.Values, want) {
			t.Fatalf("%v: %v", l, s)
		}
	}
}

// P6.6: a read changes nothing but by faults, whatever is read from which phase on.
func TestReadChangesNothing(t *testing.T) {
	c := chance(67)
	faults := 0
	for range 3000 {
		m := c.someMemory(6)
		r := c.someRead(len(m.Words))
		n, s, e := seq.Play(m, r, nil, slices.Repeat([]bool{true}, 1+c.below(12)))
		if e != api.OK {
			t.Fatal(e)
		}
		fault := m.Fault || s.Phase == api.SqLost && r.Phase != api.SqLost
		if !slices.Equal(n.Words, m.Words) || !slices.Equal(n.Live, m.Live) || n.Fault != fault {
			t.Fatalf("%v of %s: %v, %s", r, show(m), s, show(n))
		}
		if n.Fault && !m.Fault {
			faults++
		}
	}
	if faults < 100 {
		t.Errorf("only %d faults", faults)
	}
}
