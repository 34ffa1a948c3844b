package double_test

import (
	"math"
	"slices"
	"testing"

	"afterglow/api"
)

const wholeWord = math.MaxUint64

// mostNodes is how many nodes there are at most in the greatest memory, beside a head's two words.
const mostNodes = (api.MaxWords - 2) / api.NodeWords

// chance follows from a short rule, and is the same each time.
type chance uint64

func (c *chance) below(n int) int {
	*c = *c*6364136223846793005 + 1442695040888963407
	return int(uint64(*c>>33) % uint64(n))
}

// of is one of l.
func of[T any](c *chance, l ...T) T {
	return l[c.below(len(l))]
}

// places are some in a memory of so many words, and all edges: where no word is, where numbers get too great, and where they begin at 0 again.
func places(words int) []uint64 {
	l := []uint64{
		api.MaxWords - 4, api.MaxWords - 3, api.MaxWords - 2, api.MaxWords - 1, api.MaxWords, api.MaxWords + 1, api.MaxWords + 2, api.MaxWords + 3,
		1<<31 - 1, 1 << 31, 1<<32 - 1, 1 << 32, 1<<32 + 1, 1<<63 - 4, 1<<63 - 3, 1<<63 - 2, 1<<63 - 1, 1 << 63, 1<<63 + 1,
		wholeWord - 4, wholeWord - 3, wholeWord - 2, wholeWord - 1, wholeWord,
	}
	for at := range words + 2 {
		l = append(l, uint64(at))
	}
	return l
}

// values are what words are given: the edges.
func values() []uint64 {
	return []uint64{0, 1, 2, 1<<63 - 1, 1 << 63, wholeWord - 1, wholeWord, api.Poison}
}

// live is a memory of so many live words, of which each holds something of its own, that is no place.
func live(words int) api.Memory {
	m := api.Memory{Words: make([]uint64, words), Live: slices.Repeat([]bool{true}, words)}
	for i := range m.Words {
		m.Words[i] = uint64(10000 + i)
	}
	return m
}

// lay is a memory of so many live words, with a list from a head on.
func lay(words int, head uint64, l ...api.Twin) api.Memory {
	m := live(words)
	link, ahead := head, uint64(0)
	for _, n := range l {
		m.Words[link] = n.At
		m.Words[n.At], m.Words[n.At+1], m.Words[n.At+3] = n.Key, n.Value, ahead
		link, ahead = n.At+2, n.At
	}
	m.Words[link], m.Words[head+1] = 0, ahead
	return m
}

// with is m, one word of which holds something else.
func with(m api.Memory, at, w uint64) api.Memory {
	m = clone(m)
	m.Words[at] = w
	return m
}

// without is m, one word of which is free.
func without(m api.Memory, at uint64) api.Memory {
	m = with(m, at, api.Poison)
	m.Live[at] = false
	return m
}

// faulty is m with a fault.
func faulty(m api.Memory) api.Memory {
	m.Fault = true
	return m
}

// great is the greatest memory, with as many nodes as there can be.
func great() (api.Memory, []api.Twin) {
	var l []api.Twin
	for i := range uint64(mostNodes) {
		l = append(l, api.Twin{At: 1 + api.NodeWords*(mostNodes-1-i), Key: i % 2, Value: i})
	}
	return lay(api.MaxWords, api.MaxWords-2, l...), l
}

func clone(m api.Memory) api.Memory {
	return api.Memory{Words: slices.Clone(m.Words), Live: slices.Clone(m.Live), Fault: m.Fault}
}

// noMemories are some that may not be.
func noMemories() []api.Memory {
	return []api.Memory{
		{},
		{Words: []uint64{}, Live: []bool{}, Fault: true},
		{Words: make([]uint64, 9)},
		{Live: slices.Repeat([]bool{true}, 9)},
		{Words: make([]uint64, 9), Live: slices.Repeat([]bool{true}, 8)},
		{Words: make([]uint64, 9), Live: slices.Repeat([]bool{true}, 10)},
		{Words: make([]uint64, api.MaxWords+1), Live: slices.Repeat([]bool{true}, api.MaxWords+1)},
		{Words: []uint64{0, 0, 0, 0, 0, 1}, Live: []bool{true, true, true, true, true, false}},
	}
}

// same is told here anew, so that it hangs on nothing that is tested elsewhere.
func same(a, b api.Memory) bool {
	return slices.Equal(a.Words, b.Words) && slices.Equal(a.Live, b.Live) && a.Fault == b.Fault
}

// empty says whether m is the zero value.
func empty(m api.Memory) bool {
	return len(m.Words) == 0 && len(m.Live) == 0 && !m.Fault
}

// roomy is m in lists with room behind their ends, and something there.
func roomy(m api.Memory) api.Memory {
	words := append(slices.Clone(m.Words), 5, 6, 7)
	lives := append(slices.Clone(m.Live), true, false, true)
	return api.Memory{Words: words[:len(m.Words)], Live: lives[:len(m.Live)], Fault: m.Fault}
}

// whole is m with the room behind its lists.
func whole(m api.Memory) api.Memory {
	return api.Memory{Words: slices.Clone(m.Words[:cap(m.Words)]), Live: slices.Clone(m.Live[:cap(m.Live)]), Fault: m.Fault}
}

// scrub writes over all of m, the room behind its lists, too.
func scrub(m api.Memory) {
	for i := range m.Words[:cap(m.Words)] {
		m.Words[:cap(m.Words)][i] ^= wholeWord
	}
	for i := range m.Live[:cap(m.Live)] {
		m.Live[:cap(m.Live)][i] = !m.Live[:cap(m.Live)][i]
	}
}

// apart asks a call twice of a memory with room, and fails if the memory changes, or if what is answered shares its lists with anything.
func apart(t *testing.T, m api.Memory, call func(api.Memory) api.Memory) {
	t.Helper()
	given := roomy(m)
	before := whole(given)
	first, second := call(given), call(given)
	if !same(whole(given), before) {
		t.Errorf("%v is changed: %v", before, whole(given))
	}
	want := clone(second)
	if empty(want) {
		t.Errorf("nothing is told of %v", before)
	}
	scrub(given)
	scrub(first)
	if !same(second, want) {
		t.Errorf("what is told of %v is shared: %v, then %v", before, want, second)
	}
}

// plain is a memory told otherwise: what stands at a place is asked of it.
type plain struct {
	m api.Memory
}

func plainOf(m api.Memory) *plain {
	return &plain{m: clone(m)}
}

// held is what the word at a place holds, if it is there, and live.
func (p *plain) held(at uint64) (uint64, bool) {
	if at >= uint64(len(p.m.Words)) || !p.m.Live[at] {
		return 0, false
	}
	return p.m.Words[at], true
}

// load is what the word so many behind a place holds, if it is there.
func (p *plain) load(place, behind uint64) (uint64, bool) {
	w, is := p.held(place + behind)
	is = is && place <= api.MaxWords
	p.m.Fault = p.m.Fault || !is
	return w, is
}

func (p *plain) store(place, behind, w uint64) bool {
	_, is := p.load(place, behind)
	if is {
		p.m.Words[place+behind] = w
	}
	return is
}

// twin is one who changes behind its step, by the chapter's table.
func (p *plain) twin(s api.TwinEdit) api.TwinEdit {
	is, next, n := true, s.Phase, uint64(0)
	at := s.Node.At
	switch s.Phase {
	case api.TwKey:
		is, next = p.store(at, 0, s.Node.Key), api.TwValue
	case api.TwValue:
		is, next = p.store(at, 1, s.Node.Value), api.TwLoad
	case api.TwLoad:
		if s.Prev == 0 {
			n, is = p.load(s.Head, 0)
		} else {
			n, is = p.load(s.Prev, 2)
		}
		if is {
			s.Next = n
		}
		next = api.TwNext
	case api.TwNext:
		is, next = p.store(at, 2, s.Next), api.TwPrev
	case api.TwPrev:
		is, next = p.store(at, 3, s.Prev), api.TwLink
	case api.TwBehind:
		n, is = p.load(at, 2)
		if is {
			s.Next = n
		}
		next = api.TwAhead
	case api.TwAhead:
		n, is = p.load(at, 3)
		if is {
			s.Prev = n
		}
		next = api.TwLink
	case api.TwLink:
		is, next = p.lead(s.Head, 0, s.Prev, 2, s, s.Next), api.TwTurn
	case api.TwTurn:
		is, next = p.lead(s.Head, 1, s.Next, 3, s, s.Prev), api.TwOver
	}
	if !is {
		next = api.TwLost
	}
	s.Phase = next
	return s
}

// lead has a neighbour's word, or, where there is none, the head's, lead to the node; or past it, if it is cut.
func (p *plain) lead(head, ofHead, neighbour, ofNode uint64, s api.TwinEdit, past uint64) bool {
	to := s.Node.At
	if s.Cuts {
		to = past
	}
	if neighbour == 0 {
		return p.store(head, ofHead, to)
	}
	return p.store(neighbour, ofNode, to)
}

// list is the nodes from a head on, and whether they make a list: as many as there can be are gathered, and looked at then.
func (p *plain) list(head uint64) ([]api.Twin, bool) {
	var l []api.Twin
	words := []uint64{head, head + 1}
	at, is := p.held(head)
	for at != 0 && len(l) <= len(p.m.Words) { // more would be met twice
		if _, is := p.held(at); !is {
			return nil, false
		}
		words = append(words, at, at+1, at+2, at+3)
		n := api.Twin{At: at}
		n.Key, _ = p.held(at)
		n.Value, _ = p.held(at + 1)
		l = append(l, n)
		at, _ = p.held(at + 2)
	}
	for _, w := range words {
		_, there := p.held(w)
		is = is && there
	}
	slices.Sort(words)
	if !is || len(slices.Compact(slices.Clone(words))) < len(words) || !p.turned(head, l) {
		return nil, false
	}
	return l, true
}

// turned says whether these nodes are met from the last one on, too.
func (p *plain) turned(head uint64, l []api.Twin) bool {
	at := p.m.Words[head+1]
	for _, n := range slices.Backward(l) {
		if at != n.At {
			return false
		}
		at = p.m.Words[at+3]
	}
	return at == 0
}
