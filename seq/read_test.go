package seq_test

import (
	"testing"

	"afterglow/api"
	"afterglow/seq"
)

// P6.3: a step in each phase, of words that are live, and of such as are not. All reads are of two words from 1 on, by the counter 0.
func TestStepRead(t *testing.T) {
	type read = api.SeqRead
	none, one, two := []uint64{}, []uint64{5}, []uint64{5, 6}
	for _, c := range []struct {
		was string
		s   read
		is  string
		to  read
	}{
		{"078", read{}, "078", read{Phase: api.SqData}},
		{"478", read{}, "478", read{Phase: api.SqData, Began: 4}},
		{"478", read{Began: 2}, "478", read{Phase: api.SqData, Began: 4}},
		{"178", read{}, "178", read{}},
		{"178", read{Began: 6}, "178", read{Began: 6}},
		{"378", read{Tries: 2, Values: two, Began: 2}, "378", read{Tries: 2, Values: two, Began: 2}},
		{"478", read{Tries: 2, Values: two, Began: 2}, "478", read{Phase: api.SqData, Tries: 2, Began: 4, Values: none}},
		{"278", read{Tries: 2, Values: two, Began: 2}, "278", read{Phase: api.SqData, Tries: 2, Began: 2, Values: none}},
		{"x78", read{}, "x78!", read{Phase: api.SqLost}},
		{".78", read{}, ".78!", read{Phase: api.SqLost}},
		{".78", read{Tries: 2, Values: two, Began: 2}, ".78!", read{Phase: api.SqLost, Tries: 2, Values: two, Began: 2}},
		{"0xx", read{}, "0xx", read{Phase: api.SqData}},
		{"078", read{Phase: api.SqData}, "078", read{Phase: api.SqData, Values: []uint64{7}}},
		{"178", read{Phase: api.SqData, Began: 4}, "178", read{Phase: api.SqData, Began: 4, Values: []uint64{7}}},
		{"x7x", read{Phase: api.SqData}, "x7x", read{Phase: api.SqData, Values: []uint64{7}}},
		{"078", read{Phase: api.SqData, Values: one, Tries: 3}, "078", read{Phase: api.SqClose, Values: []uint64{5, 8}, Tries: 3}},
		{"xx8", read{Phase: api.SqData, Values: one}, "xx8", read{Phase: api.SqClose, Values: []uint64{5, 8}}},
		{"0x8", read{Phase: api.SqData, Began: 2}, "0x8!", read{Phase: api.SqLost, Began: 2}},
		{"0.8", read{Phase: api.SqData}, "0.8!", read{Phase: api.SqLost}},
		{"07x", read{Phase: api.SqData, Values: one, Tries: 1}, "07x!", read{Phase: api.SqLost, Values: one, Tries: 1}},
		{"07", read{Phase: api.SqData, Values: one}, "07!", read{Phase: api.SqLost, Values: one}},
		{"0", read{Phase: api.SqData}, "0!", read{Phase: api.SqLost}},
		{"278", read{Phase: api.SqClose, Values: two, Began: 2}, "278", read{Phase: api.SqOver, Values: two, Began: 2}},
		{"2xx", read{Phase: api.SqClose, Values: two, Began: 2, Tries: 4}, "2xx", read{Phase: api.SqOver, Values: two, Began: 2, Tries: 4}},
		{"378", read{Phase: api.SqClose, Values: two, Began: 2}, "378", read{Values: two, Began: 2, Tries: 1}},
		{"478", read{Phase: api.SqClose, Values: two, Began: 2, Tries: 6}, "478", read{Values: two, Began: 2, Tries: 7}},
		{"078", read{Phase: api.SqClose, Values: two, Began: 2}, "078", read{Values: two, Began: 2, Tries: 1}},
		{"378", read{Phase: api.SqClose, Values: two, Tries: api.MaxTries - 1}, "378", read{Values: two, Tries: api.MaxTries}},
		{"378", read{Phase: api.SqClose, Values: two, Tries: api.MaxTries}, "378", read{Values: two, Tries: api.MaxTries}},
		{"278", read{Phase: api.SqClose, Values: two, Tries: api.MaxTries}, "278", read{Values: two, Tries: api.MaxTries}},
		{"078", read{Phase: api.SqClose, Values: two, Tries: api.MaxTries}, "078", read{Phase: api.SqOver, Values: two, Tries: api.MaxTries}},
		{"x78", read{Phase: api.SqClose, Values: two, Tries: 3}, "x78!", read{Phase: api.SqLost, Values: two, Tries: 3}},
		{".78", read{Phase: api.SqClose, Values: two}, ".78!", read{Phase: api.SqLost, Values: two}},
		{"x78", read{Phase: api.SqOver, Values: two, Began: 2}, "x78", read{Phase: api.SqOver, Values: two, Began: 2}},
		{"478", read{Phase: api.SqOver, Values: two, Began: 2}, "478", read{Phase: api.SqOver, Values: two, Began: 2}},
		{"xxx", read{Phase: api.SqLost, Values: one, Tries: 2}, "xxx", read{Phase: api.SqLost, Values: one, Tries: 2}},
		{"078", read{Phase: api.SqLost, Values: two}, "078", read{Phase: api.SqLost, Values: two}},
	} {
		for _, fault := range []string{"", "!"} {
			c.s.From, c.s.Many, c.to.From, c.to.Many = 1, 2, 1, 2
			want := spell(c.is + fault)
			m, s, e := seq.StepRead(spell(c.was+fault), c.s)
			if e != api.OK || show(m) != show(want) || !sameRead(s, c.to) {
				t.Errorf("StepRead(%s, %v): %s, %v, %d, not %s, %v", c.was+fault, c.s, show(m), s, e, show(want), c.to)
			}
		}
	}
}

// P6.3: a read of no words looks at the counter alone, twice.
func TestStepReadNothing(t *testing.T) {
	for _, from := range []int{0, 1, 2, 3, api.MaxWords} {
		s, e := seq.Read(1, from, 0)
		if e != api.OK {
			t.Fatal(e)
		}
		for _, phase := range []int{api.SqClose, api.SqOver, api.SqOver} {
			m, to, e := seq.StepRead(spell("x4"), s)
			if e != api.OK || show(m) != "x4" || !sameRead(to, api.SeqRead{At: 1, From: from, Phase: phase, Began: 4}) {
				t.Errorf("StepRead(x4, %v): %s, %v, %d", s, show(m), to, e)
			}
			s = to
		}
	}
	// It begins anew as any other one does, and has no values then, either.
	again := api.SeqRead{Phase: api.SqClose, Began: 2}
	if _, s, e := seq.StepRead(spell("4"), again); e != api.OK || !sameRead(s, api.SeqRead{Began: 2, Tries: 1}) || seq.CheckRead(s) != api.OK {
		t.Errorf("StepRead(4, %v): %v, %d", again, s, e)
	}
}

// P6.3: of a counter that is not there, or words that are not, a fault; the last words of the greatest memory are there.
func TestStepReadEdge(t *testing.T) {
	for _, at := range []int{8, 9, 4095, 4096} {
		s, e := seq.Read(at, 1, 1)
		if e != api.OK {
			t.Fatal(e)
		}
		m, to, e := seq.StepRead(spell("00000000"), s)
		if s.Phase = api.SqLost; e != api.OK || show(m) != "00000000!" || !sameRead(to, s) {
			t.Errorf("StepRead at %d: %s, %v, %d", at, show(m), to, e)
		}
	}
	m := great()
	m.Words[4094], m.Words[4095] = 6, 9
	for _, c := range []struct {
		at, from, many, steps, phase int
	}{
		{4094, 4095, 1, 3, api.SqOver},
		{4094, 4095, 2, 3, api.SqLost},
		{4094, 4096, 1, 2, api.SqLost},
		{4095, 4094, 1, 1, api.SqBegin},
		{4096, 4095, 1, 1, api.SqLost},
		{0, 4096, 16, 2, api.SqLost},
		{0, 4080, 16, 18, api.SqOver},
		{0, 4081, 16, 17, api.SqLost},
	} {
		s, e := seq.Read(c.at, c.from, c.many)
		n := m
		for i := range c.steps {
			if e != api.OK || s.Phase >= api.SqOver {
				t.Fatalf("%v: %d after %d steps", s, e, i)
			}
			n, s, e = seq.StepRead(n, s)
		}
		if e != api.OK || s.Phase != c.phase || n.Fault != (c.phase == api.SqLost) {
			t.Errorf("Read(%d, %d, %d): %v, %v, %d", c.at, c.from, c.many, s, n.Fault, e)
		}
		if c.phase == api.SqOver && s.Values[c.many-1] != 9 {
			t.Errorf("Read(%d, %d, %d): %v", c.at, c.from, c.many, s)
		}
	}
}

// P6.3: all phases and edges, by what the chapter says line by line.
func TestStepReadAll(t *testing.T) {
	for _, live := range []string{"0000", "x000", "0x00", "00x0", "000x", "0.x0", "...."} {
		for _, count := range counts() {
			for _, began := range counts() {
				for _, at := range []int{0, 2, 3, 4} {
					m := spell(live)
					for i := range m.Words {
						if m.Live[i] {
							m.Words[i] = count + uint64(i)
						}
					}
					for phase := api.SqBegin; phase <= api.SqLost; phase++ {
						for have := range 4 {
							for _, tries := range []int{0, 1, api.MaxTries} {
								readAsPlain(t, m, api.SeqRead{At: at, From: 1, Many: have, Phase: phase, Began: began, Values: []uint64{11, 12, 13}[:have], Tries: tries})
								readAsPlain(t, m, api.SeqRead{At: at, From: 0, Many: 3, Phase: phase, Began: began, Values: []uint64{11, 12, 13}[:have], Tries: tries})
								readAsPlain(t, m, api.SeqRead{At: at, From: 3, Many: 2, Phase: phase, Began: began, Values: []uint64{11, 12, 13}[:have], Tries: tries})
							}
						}
					}
				}
			}
		}
	}
}

// readAsPlain fails unless a step of a read is as the chapter says; one that may not be is told so.
func readAsPlain(t *testing.T, m api.Memory, s api.SeqRead) {
	t.Helper()
	if seq.CheckRead(s) != api.OK {
		if n, to, e := seq.StepRead(m, s); e != api.ErrSeq || !empty(n) || !sameRead(to, api.SeqRead{}) {
			t.Fatalf("StepRead(%v, %v): %v, %v, %d", m, s, n, to, e)
		}
		return
	}
	p := plainOf(m, s)
	p.stepRead()
	n, to, e := seq.StepRead(m, s)
	if e != api.OK || !sameRead(to, p.read) || !p.is(m, n) {
		t.Fatalf("StepRead(%v, %v): %v, %v, %d, not %v", m, s, n, to, e, p.read)
	}
	if seq.CheckRead(to) != api.OK {
		t.Fatalf("StepRead(%v, %v): %v may not be", m, s, to)
	}
}

// P6.3: what may not be a memory is told ahead of a read that may not be.
func TestStepReadWrong(t *testing.T) {
	over := api.SeqRead{From: 1, Phase: api.SqOver}
	for _, m := range noMemories() {
		for _, s := range append(noReads(), over, api.SeqRead{From: 1, Many: 2}) {
			if n, to, e := seq.StepRead(m, s); e != api.ErrMemory || !empty(n) || !sameRead(to, api.SeqRead{}) {
				t.Errorf("StepRead of %d words, %v: %s, %v, %d", len(m.Words), s, show(n), to, e)
			}
		}
	}
	for _, text := range []string{"0000", "0000!", "x"} {
		for _, s := range noReads() {
			if n, to, e := seq.StepRead(spell(text), s); e != api.ErrSeq || !empty(n) || !sameRead(to, api.SeqRead{}) {
				t.Errorf("StepRead(%s, %v): %s, %v, %d", text, s, show(n), to, e)
			}
		}
	}
}

// P6.3: what is handed in stays as it is, and is not kept, where there is no access, too.
func TestStepReadApart(t *testing.T) {
	for _, text := range []string{"0x78", "1078", "2078", "x078", "00.x"} {
		for phase := api.SqBegin; phase <= api.SqLost; phase++ {
			for have := range 3 {
				keepsApart(t, spell(text), []uint64{4, 5}[:have], func(m api.Memory, values []uint64) (api.Memory, []uint64) {
					n, s, _ := seq.StepRead(m, api.SeqRead{From: 2, Many: 2, Phase: phase, Values: values, Tries: have / 2})
					return n, s.Values
				})
			}
		}
	}
}
