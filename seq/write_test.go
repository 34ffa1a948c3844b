package seq_test

import (
	"slices"
	"testing"

	"afterglow/api"
	"afterglow/seq"
)

// P6.4: a step in each phase, of words that are live, and of such as are not. All writes are of 5 and 6 from 1 on, by the counter 0.
func TestStepWrite(t *testing.T) {
	type write = api.SeqWrite
	for _, c := range []struct {
		was string
		s   write
		is  string
		to  write
	}{
		{"078", write{}, "078", write{Phase: api.SqOpen}},
		{"478", write{}, "478", write{Phase: api.SqOpen, Began: 4}},
		{"478", write{Began: 2}, "478", write{Phase: api.SqOpen, Began: 4}},
		{"178", write{}, "178", write{}},
		{"378", write{Began: 8}, "378", write{Began: 8}},
		{"4xx", write{}, "4xx", write{Phase: api.SqOpen, Began: 4}},
		{"x78", write{Began: 2}, "x78!", write{Phase: api.SqLost, Began: 2}},
		{".78", write{}, ".78!", write{Phase: api.SqLost}},
		{"078", write{Phase: api.SqOpen}, "178", write{Phase: api.SqData}},
		{"478", write{Phase: api.SqOpen, Began: 4}, "578", write{Phase: api.SqData, Began: 4}},
		{"178", write{Phase: api.SqOpen, Began: 4}, "578", write{Phase: api.SqData, Began: 4}},
		{"x78", write{Phase: api.SqOpen, Began: 4}, "x78!", write{Phase: api.SqLost, Began: 4}},
		{"178", write{Phase: api.SqData}, "158", write{Phase: api.SqData, Wrote: 1}},
		{"178", write{Phase: api.SqData, Wrote: 1, Began: 4}, "176", write{Phase: api.SqClose, Wrote: 2, Began: 4}},
		{"x7x", write{Phase: api.SqData}, "x5x", write{Phase: api.SqData, Wrote: 1}},
		{"1x8", write{Phase: api.SqData}, "1x8!", write{Phase: api.SqLost}},
		{"1.8", write{Phase: api.SqData, Began: 2}, "1.8!", write{Phase: api.SqLost, Began: 2}},
		{"17x", write{Phase: api.SqData, Wrote: 1}, "17x!", write{Phase: api.SqLost, Wrote: 1}},
		{"17", write{Phase: api.SqData, Wrote: 1}, "17!", write{Phase: api.SqLost, Wrote: 1}},
		{"178", write{Phase: api.SqClose, Wrote: 2}, "278", write{Phase: api.SqOver, Wrote: 2}},
		{"778", write{Phase: api.SqClose, Wrote: 2, Began: 4}, "678", write{Phase: api.SqOver, Wrote: 2, Began: 4}},
		{"5xx", write{Phase: api.SqClose, Wrote: 2, Began: 4}, "6xx", write{Phase: api.SqOver, Wrote: 2, Began: 4}},
		{"x78", write{Phase: api.SqClose, Wrote: 2}, "x78!", write{Phase: api.SqLost, Wrote: 2}},
		{"178", write{Phase: api.SqOver, Wrote: 2}, "178", write{Phase: api.SqOver, Wrote: 2}},
		{"xxx", write{Phase: api.SqOver, Wrote: 2, Began: 2}, "xxx", write{Phase: api.SqOver, Wrote: 2, Began: 2}},
		{"078", write{Phase: api.SqLost}, "078", write{Phase: api.SqLost}},
		{"x.8", write{Phase: api.SqLost, Wrote: 1, Began: 2}, "x.8", write{Phase: api.SqLost, Wrote: 1, Began: 2}},
	} {
		for _, fault := range []string{"", "!"} {
			c.s.From, c.s.Values = 1, []uint64{5, 6}
			c.to.From, c.to.Values = 1, []uint64{5, 6}
			want := spell(c.is + fault)
			m, s, e := seq.StepWrite(spell(c.was+fault), c.s)
			if e != api.OK || show(m) != show(want) || !sameWrite(s, c.to) {
				t.Errorf("StepWrite(%s, %v): %s, %v, %d, not %s, %v", c.was+fault, c.s, show(m), s, e, show(want), c.to)
			}
		}
	}
}

// P6.4: what passes the greatest number begins at 0 again.
func TestStepWritePasses(t *testing.T) {
	w, _ := seq.Write(0, 1, wholeWord)
	m := api.Memory{Words: []uint64{wholeWord - 1, 3}, Live: []bool{true, true}}
	for i, want := range [][]uint64{{wholeWord - 1, 3}, {wholeWord, 3}, {wholeWord, wholeWord}, {0, wholeWord}, {0, wholeWord}} {
		var e api.Errno
		if m, w, e = seq.StepWrite(m, w); e != api.OK || !slices.Equal(m.Words, want) || w.Began != wholeWord-1 || m.Fault {
			t.Fatalf("behind %d steps: %v, %v, %d, not %v", i+1, m, w, e, want)
		}
	}
	if w.Phase != api.SqOver {
		t.Errorf("%v is not over", w)
	}
}

// P6.4: of a counter that is not there, or words that are not, a fault; the last words of the greatest memory are there.
func TestStepWriteEdge(t *testing.T) {
	for _, c := range []struct {
		at, from, many, steps, phase int
	}{
		{4094, 4095, 1, 4, api.SqOver},
		{4095, 4094, 1, 4, api.SqOver},
		{4094, 4095, 2, 4, api.SqLost},
		{4094, 4096, 1, 3, api.SqLost},
		{4096, 4095, 1, 1, api.SqLost},
		{0, 4096, 16, 3, api.SqLost},
		{0, 4080, 16, 19, api.SqOver},
		{0, 4081, 16, 18, api.SqLost},
	} {
		m := great()
		s, e := seq.Write(c.at, c.from, slices.Repeat([]uint64{9}, c.many)...)
		for i := range c.steps {
			if e != api.OK || s.Phase >= api.SqOver {
				t.Fatalf("%v: %d after %d steps", s, e, i)
			}
			m, s, e = seq.StepWrite(m, s)
		}
		if e != api.OK || s.Phase != c.phase || m.Fault != (c.phase == api.SqLost) {
			t.Errorf("Write(%d, %d, %d values): %v, %v, %d", c.at, c.from, c.many, s, m.Fault, e)
		}
		if c.phase == api.SqOver && (m.Words[c.from+c.many-1] != 9 || m.Words[c.from] != 9 || m.Words[c.at] != 2) {
			t.Errorf("Write(%d, %d, %d values): the words are others", c.at, c.from, c.many)
		}
	}
}

// P6.4: all phases and edges, by what the chapter says line by line.
func TestStepWriteAll(t *testing.T) {
	for _, live := range []string{"0000", "x000", "0x00", "00x0", "000x", "0.x0", "...."} {
		for _, count := range counts() {
			for _, began := range counts() {
				for _, at := range []int{0, 2, 3, 4} {
					m := spell(live)
					for i := range m.Words {
						if m.Live[i] {
							m.Words[i] = count + uint64(i)
						}
					}
					for phase := api.SqBegin; phase <= api.SqLost; phase++ {
						for many := range 4 {
							for wrote := range 5 {
								for from := range 5 {
									writeAsPlain(t, m, api.SeqWrite{At: at, From: from, Values: []uint64{11, 12, 13}[:many], Phase: phase, Began: began, Wrote: wrote})
								}
							}
						}
					}
				}
			}
		}
	}
}

// writeAsPlain fails unless a step of a write is as the chapter says; one that may not be is told so.
func writeAsPlain(t *testing.T, m api.Memory, s api.SeqWrite) {
	t.Helper()
	if seq.CheckWrite(s) != api.OK {
		if n, to, e := seq.StepWrite(m, s); e != api.ErrSeq || !empty(n) || !sameWrite(to, api.SeqWrite{}) {
			t.Fatalf("StepWrite(%v, %v): %v, %v, %d", m, s, n, to, e)
		}
		return
	}
	p := plainOf(m, api.SeqRead{}, s)
	p.stepWrite(0)
	n, to, e := seq.StepWrite(m, s)
	if e != api.OK || !sameWrite(to, p.writes[0]) || !p.is(m, n) {
		t.Fatalf("StepWrite(%v, %v): %v, %v, %d, not %v", m, s, n, to, e, p.writes[0])
	}
	if seq.CheckWrite(to) != api.OK {
		t.Fatalf("StepWrite(%v, %v): %v may not be", m, s, to)
	}
}

// P6.4: what may not be a memory is told ahead of a write that may not be.
func TestStepWriteWrong(t *testing.T) {
	over := api.SeqWrite{From: 1, Values: []uint64{7}, Phase: api.SqOver, Wrote: 1}
	for _, m := range noMemories() {
		for _, s := range append(noWrites(), over, api.SeqWrite{From: 1, Values: []uint64{7}}) {
			if n, to, e := seq.StepWrite(m, s); e != api.ErrMemory || !empty(n) || !sameWrite(to, api.SeqWrite{}) {
				t.Errorf("StepWrite of %d words, %v: %s, %v, %d", len(m.Words), s, show(n), to, e)
			}
		}
	}
	for _, text := range []string{"0000", "0000!", "x"} {
		for _, s := range noWrites() {
			if n, to, e := seq.StepWrite(spell(text), s); e != api.ErrSeq || !empty(n) || !sameWrite(to, api.SeqWrite{}) {
				t.Errorf("StepWrite(%s, %v): %s, %v, %d", text, s, show(n), to, e)
			}
		}
	}
}

// P6.4: what is handed in stays as it is, and is not kept, where there is no access, too.
func TestStepWriteApart(t *testing.T) {
	for _, text := range []string{"0x78", "1078", "x078", "00.x"} {
		for phase := api.SqBegin; phase <= api.SqLost; phase++ {
			for wrote := range 3 {
				keepsApart(t, spell(text), []uint64{4, 5}, func(m api.Memory, values []uint64) (api.Memory, []uint64) {
					n, s, _ := seq.StepWrite(m, api.SeqWrite{From: 2, Values: values, Phase: phase, Wrote: wrote})
					return n, s.Values
				})
			}
		}
	}
}
