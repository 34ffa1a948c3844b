package memory_test

import (
	"math"
	"slices"
	"testing"

	"afterglow/api"
	"afterglow/memory"
)

const wholeWord = math.MaxUint64

// values are what words are given: the edges, and what the chapter tells apart.
func values() []uint64 {
	return []uint64{0, 1, 7, 1 << 63, wholeWord, api.Poison - 1, api.Poison, api.Poison + 1}
}

// places are some where a memory of so many words has none.
func places(words int) []int {
	return []int{math.MinInt, math.MinInt + 1, -words, -1, words, words + 1, api.MaxWords, math.MaxInt - 1, math.MaxInt}
}

// chance follows from a short rule, and is the same each time.
type chance uint64

func (c *chance) below(n int) int {
	*c = *c*6364136223846793005 + 1442695040888963407
	return int(uint64(*c>>33) % uint64(n))
}

// spell makes a memory: '.' is a free word of 0, 'x' a free one of Poison, a digit a live one that holds that.
func spell(text string) api.Memory {
	var m api.Memory
	for _, c := range text {
		w := uint64(0)
		switch {
		case c == 'x':
			w = api.Poison
		case c >= '0' && c <= '9':
			w = uint64(c - '0')
		}
		m.Words, m.Live = append(m.Words, w), append(m.Live, c >= '0' && c <= '9')
	}
	return m
}

// faulty is m with a fault.
func faulty(m api.Memory) api.Memory {
	m.Fault = true
	return m
}

// noMemories are some that may not be.
func noMemories() map[string]api.Memory {
	return map[string]api.Memory{
		"none":             {},
		"of no words":      {Words: []uint64{}, Live: []bool{}, Fault: true},
		"words alone":      {Words: []uint64{0}},
		"lives alone":      {Live: []bool{true}},
		"too few lives":    {Words: []uint64{0, 0}, Live: []bool{true}},
		"too many lives":   {Words: []uint64{0, 0}, Live: []bool{true, true, true}},
		"too many words":   {Words: make([]uint64, api.MaxWords+1), Live: make([]bool, api.MaxWords+1)},
		"a free 1":         {Words: []uint64{1, 0, 0}, Live: []bool{false, true, true}},
		"a free last one":  {Words: []uint64{0, 0, wholeWord}, Live: []bool{true, true, false}},
		"a free near":      {Words: []uint64{0, api.Poison - 1}, Live: []bool{true, false}},
		"a free behind":    {Words: []uint64{0, api.Poison + 1}, Live: []bool{true, false}, Fault: true},
		"a free among all": {Words: append(make([]uint64, api.MaxWords-1), 2), Live: make([]bool, api.MaxWords)},
	}
}

// roomy is m in lists with room behind their ends, and something there.
func roomy(m api.Memory) api.Memory {
	words := append(slices.Clone(m.Words), 5, 6, 7)
	live := append(slices.Clone(m.Live), true, false, true)
	return api.Memory{Words: words[:len(m.Words)], Live: live[:len(m.Live)], Fault: m.Fault}
}

// whole is m with the room behind its lists.
func whole(m api.Memory) api.Memory {
	return api.Memory{Words: slices.Clone(m.Words[:cap(m.Words)]), Live: slices.Clone(m.Live[:cap(m.Live)]), Fault: m.Fault}
}

// same is told here anew, so that it hangs on nothing that is to be tested.
func same(a, b api.Memory) bool {
	if len(a.Words) != len(b.Words) || len(a.Live) != len(b.Live) || a.Fault != b.Fault {
		return false
	}
	for i := range a.Words {
		if a.Words[i] != b.Words[i] {
			return false
		}
	}
	for i := range a.Live {
		if a.Live[i] != b.Live[i] {
			return false
		}
	}
	return true
}

// empty says whether m is the zero value.
func empty(m api.Memory) bool {
	return len(m.Words) == 0 && len(m.Live) == 0 && !m.Fault
}

// show tells m as spell reads it; a word that it has no letter for is a '?', a fault a '!'.
func show(m api.Memory) string {
	var l []byte
	for i, w := range m.Words {
		c := byte('?')
		switch {
		case i >= len(m.Live):
		case m.Live[i] && w < 10:
			c = '0' + byte(w)
		case !m.Live[i] && w == 0:
			c = '.'
		case !m.Live[i] && w == api.Poison:
			c = 'x'
		}
		l = append(l, c)
	}
	if m.Fault {
		l = append(l, '!')
	}
	return string(l)
}

// apart asks a call twice of a memory with room, and fails if the memory changes, or if what is answered shares its lists with anything.
func apart(t *testing.T, m api.Memory, call func(api.Memory) api.Memory) {
	t.Helper()
	given := roomy(m)
	before := whole(given)
	first, second := call(given), call(given)
	if !same(whole(given), before) {
		t.Errorf("%s is changed: %s", show(before), show(whole(given)))
	}
	want := whole(api.Memory{Words: slices.Clip(second.Words), Live: slices.Clip(second.Live), Fault: second.Fault})
	scrub(given)
	scrub(first)
	if !same(second, want) {
		t.Errorf("what is told of %s is shared: %s, then %s", show(before), show(want), show(second))
	}
}

// scrub writes over all of m, the room behind its lists, too.
func scrub(m api.Memory) {
	for i := range m.Words[:cap(m.Words)] {
		m.Words[:cap(m.Words)][i] ^= wholeWord
	}
	for i := range m.Live[:cap(m.Live)] {
		m.Live[:cap(m.Live)][i] = !m.Live[:cap(m.Live)][i]
	}
}

// plain is a memory told otherwise: which words are there, and of those that are live what they hold.
type plain struct {
	words int
	live  map[int]uint64
	freed map[int]bool
	fault bool
}

func plainOf(m api.Memory) *plain {
	p := &plain{words: len(m.Words), live: map[int]uint64{}, freed: map[int]bool{}, fault: m.Fault}
	for i, w := range m.Words {
		if m.Live[i] {
			p.live[i] = w
		} else {
			p.freed[i] = w == api.Poison
		}
	}
	return p
}

func (p *plain) memory() api.Memory {
	m := api.Memory{Words: make([]uint64, p.words), Live: make([]bool, p.words), Fault: p.fault}
	for i := range p.words {
		w, live := p.live[i]
		if p.freed[i] {
			w = api.Poison
		}
		m.Words[i], m.Live[i] = w, live
	}
	return m
}

func (p *plain) make(a api.Access) api.Got {
	held, live := p.live[a.At]
	if !live {
		p.fault = true
		return api.Got{}
	}
	done := true
	switch a.Kind {
	case api.AcStore:
		p.live[a.At] = a.New
	case api.AcSwap:
		if done = held == a.Old; done {
			p.live[a.At] = a.New
		}
	}
	return api.Got{Value: held, Done: done}
}

// turn makes so many words live, or free; or it tells which error there is.
func (p *plain) turn(from, many int, live bool) api.Errno {
	if many < 1 || from < 0 || from >= p.words || many > p.words-from {
		return api.ErrArg
	}
	for i := from; i < from+many; i++ {
		if _, is := p.live[i]; is == live && live {
			return api.ErrThere
		} else if is == live {
			return api.ErrNone
		}
	}
	for i := from; i < from+many; i++ {
		if live {
			p.live[i] = 0
		} else {
			delete(p.live, i)
		}
		p.freed[i] = !live
	}
	return api.OK
}

func mustBe(t *testing.T, what string, got, want api.Memory) {
	t.Helper()
	if !same(got, want) {
		t.Errorf("%s: %s, not %s", what, show(got), show(want))
	}
	if e := memory.Check(got); e != api.OK {
		t.Errorf("%s: %s may not be: %d", what, show(got), e)
	}
}
