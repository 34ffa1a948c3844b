package spin_test

import (
	"iter"
	"math"
	"slices"
	"testing"

	"afterglow/api"
	"afterglow/memory"
)

const wholeWord = math.MaxUint64

// values are what words and tickets are given: the edges, and what may be taken for something else.
func values() []uint64 {
	return []uint64{0, 1, 2, 7, 1 << 63, wholeWord - 1, wholeWord, api.Poison}
}

// chance follows from a short rule, and is the same each time.
type chance uint64

func (c *chance) below(n int) int {
	*c = *c*6364136223846793005 + 1442695040888963407
	return int(uint64(*c>>33) % uint64(n))
}

// someSpins are some that may be, of small places and tickets.
func (c *chance) someSpins(words, many int) []api.Spin {
	var l []api.Spin
	for range many {
		s := api.Spin{At: c.below(words + 1), Phase: c.below(6)}
		if s.Phase != api.SpAsk {
			s.Ticket = uint64(c.below(3))
		}
		l = append(l, s)
	}
	return l
}

// somePicks are some, a few of them of nobody there.
func (c *chance) somePicks(of, many int) []int {
	var l []int
	for range many {
		l = append(l, c.below(of+2)-1)
	}
	return l
}

// rows tells each row of at most so many numbers, from one number on up to one, in a row that is its own.
func rows(from, to, most int) iter.Seq[[]int] {
	return func(yield func([]int) bool) {
		l := []int{}
		for {
			if !yield(slices.Clone(l)) {
				return
			}
			at := len(l) - 1
			for at >= 0 && l[at] == to {
				l[at] = from
				at--
			}
			switch {
			case at >= 0:
				l[at]++
			case len(l) < most:
				l = append(l, from)
			default:
				return
			}
		}
	}
}

// spell makes a memory: '.' is a free word of 0, 'x' a free one of Poison, a digit a live one that holds that.
func spell(text string) api.Memory {
	var m api.Memory
	for _, c := range text {
		w := uint64(0)
		switch {
		case c == 'x':
			w = api.Poison
		case c >= '0' && c <= '9':
			w = uint64(c - '0')
		}
		m.Words, m.Live = append(m.Words, w), append(m.Live, c >= '0' && c <= '9')
	}
	return m
}

// show tells m as spell reads it; a word that it has no letter for is a '?', a fault a '!'.
func show(m api.Memory) string {
	var l []byte
	for i, w := range m.Words {
		c := byte('?')
		switch {
		case i >= len(m.Live):
		case m.Live[i] && w < 10:
			c = '0' + byte(w)
		case !m.Live[i] && w == 0:
			c = '.'
		case !m.Live[i] && w == api.Poison:
			c = 'x'
		}
		l = append(l, c)
	}
	if m.Fault {
		l = append(l, '!')
	}
	return string(l)
}

// faulty is m with a fault.
func faulty(m api.Memory) api.Memory {
	m.Fault = true
	return m
}

// smallMemories are all of up to so many words, each free of 0, free of Poison, or live.
func smallMemories(most int) []string {
	var all []string
	last := []string{""}
	for range most {
		var more []string
		for _, text := range last {
			more = append(more, text+".", text+"x", text+"3")
		}
		all, last = append(all, more...), more
	}
	return all
}

// noMemories are some that may not be.
func noMemories() []api.Memory {
	return []api.Memory{
		{},
		{Words: []uint64{}, Live: []bool{}, Fault: true},
		{Words: []uint64{0, 0}},
		{Live: []bool{true, true}},
		{Words: []uint64{0, 0}, Live: []bool{true}},
		{Words: []uint64{0, 0}, Live: []bool{true, true, true}},
		{Words: make([]uint64, api.MaxWords+1), Live: slices.Repeat([]bool{true}, api.MaxWords+1)},
		{Words: []uint64{0, 0, 1}, Live: []bool{true, true, false}},
	}
}

// noSpins are some who may not be, each for one cause alone.
func noSpins() []api.Spin {
	var l []api.Spin
	for phase := api.SpAsk; phase <= api.SpDone; phase++ {
		for _, at := range []int{-1, -2, math.MinInt} {
			l = append(l, api.Spin{At: at, Phase: phase})
		}
	}
	for _, phase := range []int{math.MinInt, -2, -1, 6, 7, 256, 1 << 32, 1<<32 + 2, math.MaxInt} {
		l = append(l, api.Spin{Phase: phase}, api.Spin{At: 1, Phase: phase, Ticket: 1})
	}
	for _, ticket := range values() {
		if ticket != 0 {
			l = append(l, api.Spin{Phase: api.SpAsk, Ticket: ticket})
		}
	}
	return l
}

// empty says whether m is the zero value.
func empty(m api.Memory) bool {
	return len(m.Words) == 0 && len(m.Live) == 0 && !m.Fault
}

// roomy is l with room behind its end, and something there.
func roomy[T any](l []T, behind ...T) []T {
	return append(slices.Clone(l), behind...)[:len(l)]
}

// whole is a copy of l with the room behind it.
func whole[T any](l []T) []T {
	return slices.Clone(l[:cap(l)])
}

// scrub writes over all of l, the room behind it, too.
func scrub[T any](l []T, with T) {
	for i := range l[:cap(l)] {
		l[:cap(l)][i] = with
	}
}

// roomyMemory is m in lists with room behind their ends.
func roomyMemory(m api.Memory) api.Memory {
	return api.Memory{Words: roomy(m.Words, 5, 6, 7), Live: roomy(m.Live, true, false, true), Fault: m.Fault}
}

// wholeMemory is m with the room behind its lists.
func wholeMemory(m api.Memory) api.Memory {
	return api.Memory{Words: whole(m.Words), Live: whole(m.Live), Fault: m.Fault}
}

func scrubMemory(m api.Memory) {
	scrub(m.Words, 77)
	scrub(m.Live, false)
}

// apart asks a call twice of a memory with room, and fails if that changes, or if what is answered shares its lists with anything.
func apart(t *testing.T, m api.Memory, call func(api.Memory) api.Memory) {
	t.Helper()
	given := roomyMemory(m)
	before := wholeMemory(given)
	first, second := call(given), call(given)
	if !memory.Same(wholeMemory(given), before) {
		t.Errorf("%s is changed: %s", show(before), show(wholeMemory(given)))
	}
	want := wholeMemory(api.Memory{Words: slices.Clip(second.Words), Live: slices.Clip(second.Live), Fault: second.Fault})
	scrubMemory(given)
	scrubMemory(first)
	if !memory.Same(second, want) {
		t.Errorf("what is told of %s is shared: %s, then %s", show(before), show(want), show(second))
	}
}

// plain is a play told otherwise: what the live words hold, and where all are, moved on by the chapter's table, line by line.
type plain struct {
	live   map[int]uint64
	fault  bool
	places []api.Spin
	held   []int
}

func plainOf(m api.Memory, l ...api.Spin) *plain {
	p := &plain{live: map[int]uint64{}, fault: m.Fault, places: slices.Clone(l)}
	for i, w := range m.Words {
		if m.Live[i] {
			p.live[i] = w
		}
	}
	return p
}

// word is what a live word holds; else it is a fault.
func (p *plain) word(at int) (uint64, bool) {
	w, live := p.live[at]
	p.fault = p.fault || !live
	return w, live
}

func (p *plain) step(who int) {
	s := &p.places[who]
	nextAt, ownerAt := s.At, s.At+1
	switch s.Phase {
	case 0:
		if w, live := p.word(nextAt); live {
			s.Phase, s.Ticket = 1, w
		}
	case 1:
		if w, live := p.word(nextAt); live && w == s.Ticket {
			p.live[nextAt] = s.Ticket + 1
			s.Phase = 2
		} else {
			s.Phase, s.Ticket = 0, 0
		}
	case 2:
		if w, live := p.word(ownerAt); live && w == s.Ticket {
			s.Phase = 3
			p.held = append(p.held, who)
		}
	case 4:
		if _, live := p.word(ownerAt); live {
			p.live[ownerAt] = s.Ticket + 1
			s.Phase = 5
		}
	}
}

func (p *plain) pick(who int) {
	if who < 0 || who >= len(p.places) {
		return
	}
	if p.places[who].Phase == 3 {
		p.places[who].Phase = 4
	}
	p.step(who)
}

// is says whether m is p's memory; which words are live, and what the free ones hold, is as in was.
func (p *plain) is(was, m api.Memory) bool {
	want := wholeMemory(api.Memory{Words: slices.Clip(was.Words), Live: slices.Clip(was.Live), Fault: p.fault})
	for at, w := range p.live {
		want.Words[at] = w
	}
	return memory.Same(m, want)
}
