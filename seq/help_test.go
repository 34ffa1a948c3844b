package seq_test

import (
	"iter"
	"math"
	"slices"
	"testing"

	"afterglow/api"
	"afterglow/memory"
	"afterglow/seq"
)

const wholeWord = math.MaxUint64

// counts are what counters are given: the edges, and what may be taken for something else.
func counts() []uint64 {
	return []uint64{0, 1, 2, 3, 1 << 63, 1<<63 + 1, wholeWord - 2, wholeWord - 1, wholeWord, api.Poison}
}

// chance follows from a short rule, and is the same each time.
type chance uint64

func (c *chance) below(n int) int {
	*c = *c*6364136223846793005 + 1442695040888963407
	return int(uint64(*c>>33) % uint64(n))
}

// somePicks are so many, of which so many of ten are of the read.
func (c *chance) somePicks(many, ofRead int) []bool {
	var l []bool
	for range many {
		l = append(l, c.below(10) < ofRead)
	}
	return l
}

// someValues are so many, no two of them one.
func (c *chance) someValues(many int) []uint64 {
	var l []uint64
	for i := range many {
		l = append(l, uint64(c.below(1000))*100+uint64(i))
	}
	return l
}

// someMemory has up to most words, a few of them free; those that may be counters hold little.
func (c *chance) someMemory(most int) api.Memory {
	m := api.Memory{Fault: c.below(9) == 0}
	for range 1 + c.below(most) {
		w, live := uint64(c.below(4)), c.below(12) > 0
		if !live {
			w = []uint64{0, api.Poison}[c.below(2)]
		}
		m.Words, m.Live = append(m.Words, w), append(m.Live, live)
	}
	return m
}

// someRead is one that may be, in any phase.
func (c *chance) someRead(words int) api.SeqRead {
	for {
		s := api.SeqRead{At: c.below(words + 1), From: c.below(words + 1), Many: c.below(5), Phase: c.below(6), Began: uint64(c.below(3)), Tries: c.below(2)}
		s.Values = c.someValues(c.below(s.Many + 1))
		if seq.CheckRead(s) == api.OK {
			return s
		}
	}
}

// someWrite is one that may be, in any phase.
func (c *chance) someWrite(words int) api.SeqWrite {
	for {
		s := api.SeqWrite{At: c.below(words + 1), From: c.below(words + 1), Values: c.someValues(1 + c.below(4)), Phase: c.below(6), Began: uint64(c.below(3))}
		s.Wrote = c.below(len(s.Values) + 1)
		if seq.CheckWrite(s) == api.OK {
			return s
		}
	}
}

// rows tells each row of so many picks.
func rows(many int) iter.Seq[[]bool] {
	return func(yield func([]bool) bool) {
		for bits := range 1 << many {
			l := make([]bool, many)
			for i := range l {
				l[i] = bits>>i&1 != 0
			}
			if !yield(l) {
				return
			}
		}
	}
}

// picks are of the read where the text has an r, of a write elsewhere.
func picks(text string) []bool {
	var l []bool
	for _, c := range text {
		l = append(l, c == 'r')
	}
	return l
}

// spell makes a memory: '.' is a free word of 0, 'x' a free one of Poison, a digit a live one that holds that, '!' a fault.
func spell(text string) api.Memory {
	var m api.Memory
	for _, c := range text {
		w := uint64(0)
		switch {
		case c == '!':
			m.Fault = true
			continue
		case c == 'x':
			w = api.Poison
		case c >= '0' && c <= '9':
			w = uint64(c - '0')
		}
		m.Words, m.Live = append(m.Words, w), append(m.Live, c >= '0' && c <= '9')
	}
	return m
}

// show tells m as spell reads it; a word that it has no letter for is a '?'.
func show(m api.Memory) string {
	var l []byte
	for i, w := range m.Words {
		c := byte('?')
		switch {
		case i >= len(m.Live):
		case m.Live[i] && w < 10:
			c = '0' + byte(w)
		case !m.Live[i] && w == 0:
			c = '.'
		case !m.Live[i] && w == api.Poison:
			c = 'x'
		}
		l = append(l, c)
	}
	if m.Fault {
		l = append(l, '!')
	}
	return string(l)
}

// great is the greatest memory, all live.
func great() api.Memory {
	return api.Memory{Words: make([]uint64, api.MaxWords), Live: slices.Repeat([]bool{true}, api.MaxWords)}
}

// noMemories are some that may not be.
func noMemories() []api.Memory {
	return []api.Memory{
		{},
		{Words: []uint64{}, Live: []bool{}, Fault: true},
		{Words: []uint64{0, 0}},
		{Live: []bool{true, true}},
		{Words: []uint64{0, 0, 0}, Live: []bool{true, true}},
		{Words: []uint64{0, 0}, Live: []bool{true, true, true}},
		{Words: make([]uint64, api.MaxWords+1), Live: slices.Repeat([]bool{true}, api.MaxWords+1)},
		{Words: []uint64{0, 0, 0, 1}, Live: []bool{true, true, true, false}},
	}
}

// noPlaces are some where nothing may be.
func noPlaces() []int {
	return []int{math.MinInt, -4096, -2, -1, api.MaxWords + 1, api.MaxWords + 2, 1 << 32, math.MaxInt - 15, math.MaxInt}
}

// phases are all, and such as are none.
func phases() []int {
	return []int{math.MinInt, -2, -1, 0, 1, 2, 3, 4, 5, 6, 7, 256, 1 << 32, 1<<32 + 2, math.MaxInt}
}

// noReads are some that may not be, each for one cause alone.
func noReads() []api.SeqRead {
	var l []api.SeqRead
	for _, at := range noPlaces() {
		l = append(l, api.SeqRead{At: at, From: 1, Many: 2}, api.SeqRead{From: at, Many: 2}, api.SeqRead{From: at, Phase: api.SqClose})
	}
	for _, many := range []int{math.MinInt, -1, 17, 18, 1 << 32, math.MaxInt} {
		l = append(l, api.SeqRead{From: 1, Many: many}, api.SeqRead{From: 1, Many: many, Phase: api.SqData}, api.SeqRead{From: 1, Many: many, Phase: api.SqLost})
	}
	for at := 3; at < 6; at++ {
		l = append(l, api.SeqRead{At: at, From: 3, Many: 3})
	}
	for _, phase := range phases() {
		if phase < 0 || phase > 5 || phase == api.SqOpen {
			l = append(l, api.SeqRead{From: 1, Phase: phase}, api.SeqRead{From: 1, Many: 1, Phase: phase}, api.SeqRead{From: 1, Many: 1, Phase: phase, Values: []uint64{4}})
		}
	}
	for _, count := range counts() {
		if count%2 == 1 {
			l = append(l, api.SeqRead{From: 1, Many: 2, Began: count}, api.SeqRead{From: 1, Many: 2, Phase: api.SqLost, Began: count})
		}
	}
	for _, tries := range []int{math.MinInt, -1, 1<<30 + 1, 1 << 32, math.MaxInt} {
		l = append(l, api.SeqRead{From: 1, Tries: tries}, api.SeqRead{From: 1, Phase: api.SqOver, Tries: tries}, api.SeqRead{From: 1, Phase: api.SqLost, Many: 2, Tries: tries})
	}
	return append(l,
		api.SeqRead{From: 1, Many: 2, Values: []uint64{7}},
		api.SeqRead{From: 1, Many: 2, Values: []uint64{7, 8}},
		api.SeqRead{From: 1, Many: 2, Tries: 1},
		api.SeqRead{From: 1, Many: 2, Tries: 1, Values: []uint64{7}},
		api.SeqRead{From: 1, Many: 2, Tries: 1, Values: []uint64{7, 8, 9}},
		api.SeqRead{From: 1, Phase: api.SqData},
		api.SeqRead{From: 1, Many: 2, Phase: api.SqData, Values: []uint64{7, 8}},
		api.SeqRead{From: 1, Many: 2, Phase: api.SqData, Values: []uint64{7, 8, 9}},
		api.SeqRead{From: 1, Many: 2, Phase: api.SqClose},
		api.SeqRead{From: 1, Many: 2, Phase: api.SqClose, Values: []uint64{7}},
		api.SeqRead{From: 1, Many: 2, Phase: api.SqOver, Values: []uint64{7}},
		api.SeqRead{From: 1, Many: 2, Phase: api.SqOver, Values: []uint64{7, 8, 9}},
		api.SeqRead{From: 1, Many: 2, Phase: api.SqLost, Values: []uint64{7, 8, 9}},
	)
}

// noWrites are some that may not be, each for one cause alone.
func noWrites() []api.SeqWrite {
	two := []uint64{7, 8}
	var l []api.SeqWrite
	for _, at := range noPlaces() {
		l = append(l, api.SeqWrite{At: at, From: 1, Values: two}, api.SeqWrite{From: at, Values: two})
	}
	for _, many := range []int{0, 17, 18, 300} {
		values := make([]uint64, many)
		l = append(l, api.SeqWrite{From: 1, Values: values}, api.SeqWrite{From: 1, Values: values, Phase: api.SqOver, Wrote: many}, api.SeqWrite{From: 1, Values: values, Phase: api.SqLost})
	}
	for at := 3; at < 5; at++ {
		l = append(l, api.SeqWrite{At: at, From: 3, Values: two})
	}
	for _, phase := range phases() {
		if phase < 0 || phase > 5 {
			l = append(l, api.SeqWrite{From: 1, Values: two, Phase: phase}, api.SeqWrite{From: 1, Values: two, Phase: phase, Wrote: 2})
		}
	}
	for _, count := range counts() {
		if count%2 == 1 {
			l = append(l, api.SeqWrite{From: 1, Values: two, Began: count}, api.SeqWrite{From: 1, Values: two, Phase: api.SqLost, Began: count})
		}
	}
	for phase, wrotes := range [][]int{{-1, 1, 2, 3}, {-1, 1, 2, 3}, {-1, 2, 3}, {-1, 0, 1, 3}, {-1, 0, 1, 3}, {-1, 3}} {
		for _, wrote := range append(wrotes, math.MinInt, math.MaxInt) {
			l = append(l, api.SeqWrite{From: 1, Values: two, Phase: phase, Wrote: wrote})
		}
	}
	return l
}

func sameRead(a, b api.SeqRead) bool {
	return a.At == b.At && a.From == b.From && a.Many == b.Many && a.Phase == b.Phase && a.Began == b.Began && slices.Equal(a.Values, b.Values) && a.Tries == b.Tries
}

func sameWrite(a, b api.SeqWrite) bool {
	return a.At == b.At && a.From == b.From && slices.Equal(a.Values, b.Values) && a.Phase == b.Phase && a.Began == b.Began && a.Wrote == b.Wrote
}

// empty says whether m is the zero value.
func empty(m api.Memory) bool {
	return len(m.Words) == 0 && len(m.Live) == 0 && !m.Fault
}

// roomy is l with room behind its end, and something there.
func roomy[T any](l []T, behind ...T) []T {
	return append(slices.Clone(l), behind...)[:len(l)]
}

// whole is a copy of l with the room behind it.
func whole[T any](l []T) []T {
	return slices.Clone(l[:cap(l)])
}

// scrub writes over all of l, the room behind it, too.
func scrub[T any](l []T, with T) {
	for i := range l[:cap(l)] {
		l[:cap(l)][i] = with
	}
}

// roomyMemory is m in lists with room behind their ends.
func roomyMemory(m api.Memory) api.Memory {
	return api.Memory{Words: roomy(m.Words, 5, 6, 7), Live: roomy(m.Live, true, false, true), Fault: m.Fault}
}

// roomyValues are values with room for as many words as there are at most.
func roomyValues(l []uint64) []uint64 {
	return roomy(l, slices.Repeat([]uint64{55}, api.MaxData+2)...)
}

// wholeMemory is m with the room behind its lists.
func wholeMemory(m api.Memory) api.Memory {
	return api.Memory{Words: whole(m.Words), Live: whole(m.Live), Fault: m.Fault}
}

// told is m, and values, in memory of their own.
func told(m api.Memory, values []uint64) (api.Memory, []uint64) {
	return api.Memory{Words: slices.Clone(m.Words), Live: slices.Clone(m.Live), Fault: m.Fault}, slices.Clone(values)
}

// keepsApart asks a call twice of a memory and of values that have room, and fails if these change, or if what is answered shares its lists with anything.
func keepsApart(t *testing.T, m api.Memory, values []uint64, call func(api.Memory, []uint64) (api.Memory, []uint64)) {
	t.Helper()
	given, handed := roomyMemory(m), roomyValues(values)
	before, held := wholeMemory(given), whole(handed)
	firstM, firstL := call(given, handed)
	secondM, secondL := call(given, handed)
	if !memory.Same(wholeMemory(given), before) || !slices.Equal(whole(handed), held) {
		t.Errorf("%s, %v is changed: %s, %v", show(before), held, show(wholeMemory(given)), whole(handed))
	}
	wantM, wantL := told(secondM, secondL)
	for _, m := range []api.Memory{given, firstM} {
		scrub(m.Words, 77)
		scrub(m.Live, false)
	}
	scrub(handed, 78)
	scrub(firstL, 79)
	if !memory.Same(secondM, wantM) || !slices.Equal(secondL, wantL) {
		t.Errorf("what is told of %s, %v is shared: %s, %v, then %s, %v", show(before), held, show(wantM), wantL, show(secondM), secondL)
	}
}

// plain is a memory, a read and writes told otherwise: what the live words hold, moved on by the chapter's table, line by line.
type plain struct {
	live   map[int]uint64
	fault  bool
	read   api.SeqRead
	writes []api.SeqWrite
}

func plainOf(m api.Memory, r api.SeqRead, writes ...api.SeqWrite) *plain {
	p := &plain{live: map[int]uint64{}, fault: m.Fault, read: r, writes: slices.Clone(writes)}
	p.read.Values = slices.Clone(r.Values)
	for i, w := range m.Words {
		if m.Live[i] {
			p.live[i] = w
		}
	}
	return p
}

// load is what a live word holds; else it is a fault.
func (p *plain) load(at int) (uint64, bool) {
	w, live := p.live[at]
	p.fault = p.fault || !live
	return w, live
}

func (p *plain) store(at int, w uint64) bool {
	_, live := p.load(at)
	if live {
		p.live[at] = w
	}
	return live
}

func (p *plain) stepRead() {
	s := &p.read
	at := s.At
	switch s.Phase {
	case 2:
		at = s.From + len(s.Values)
	case 4, 5:
		return
	}
	w, live := p.load(at)
	switch {
	case !live:
		s.Phase = 5
	case s.Phase == 0 && w%2 == 0:
		s.Began, s.Values, s.Phase = w, nil, 2
		if s.Many == 0 {
			s.Phase = 3
		}
	case s.Phase == 2:
		s.Values = append(s.Values, w)
		if len(s.Values) == s.Many {
			s.Phase = 3
		}
	case s.Phase == 3 && w == s.Began:
		s.Phase = 4
	case s.Phase == 3:
		s.Phase = 0
		if s.Tries < 1<<30 {
			s.Tries++
		}
	}
}

func (p *plain) stepWrite(who int) {
	s, live := &p.writes[who], true
	switch s.Phase {
	case 0:
		var w uint64
		if w, live = p.load(s.At); live && w%2 == 0 {
			s.Began, s.Phase = w, 1
		}
	case 1:
		if live = p.store(s.At, s.Began+1); live {
			s.Phase = 2
		}
	case 2:
		if live = p.store(s.From+s.Wrote, s.Values[s.Wrote]); live {
			s.Wrote++
			if s.Wrote == len(s.Values) {
				s.Phase = 3
			}
		}
	case 3:
		if live = p.store(s.At, s.Began+2); live {
			s.Phase = 4
		}
	}
	if !live {
		s.Phase = 5
	}
}

func (p *plain) pick(reads bool) {
	if reads {
		p.stepRead()
		return
	}
	for who, w := range p.writes {
		if w.Phase < 4 {
			p.stepWrite(who)
			return
		}
	}
}

// is says whether m is p's memory; which words are live, and what the free ones hold, is as in was.
func (p *plain) is(was, m api.Memory) bool {
	want, _ := told(was, nil)
	want.Fault = p.fault
	for at, w := range p.live {
		want.Words[at] = w
	}
	return memory.Same(m, want)
}
