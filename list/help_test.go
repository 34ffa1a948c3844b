package list_test

import (
	"math"
	"slices"
	"testing"

	"afterglow/api"
)

const wholeWord = math.MaxUint64

// mostNodes is how many nodes there are at most in the greatest memory, beside a head.
const mostNodes = (api.MaxWords - 1) / api.NodeWords

// chance follows from a short rule, and is the same each time.
type chance uint64

func (c *chance) below(n int) int {
	*c = *c*6364136223846793005 + 1442695040888963407
	return int(uint64(*c>>33) % uint64(n))
}

// of is one of l.
func of[T any](c *chance, l ...T) T {
	return l[c.below(len(l))]
}

// places are some in a memory of so many words, and all edges: where no word is, where numbers get too great, and where they begin at 0 again.
func places(words int) []uint64 {
	l := []uint64{
		api.MaxWords - 4, api.MaxWords - 3, api.MaxWords - 2, api.MaxWords - 1, api.MaxWords, api.MaxWords + 1, api.MaxWords + 2, api.MaxWords + 3,
		1<<31 - 1, 1 << 31, 1<<32 - 1, 1 << 32, 1<<32 + 1, 1<<63 - 4, 1<<63 - 3, 1<<63 - 2, 1<<63 - 1, 1 << 63, 1<<63 + 1,
		wholeWord - 4, wholeWord - 3, wholeWord - 2, wholeWord - 1, wholeWord,
	}
	for at := range words + 2 {
		l = append(l, uint64(at))
	}
	return l
}

// values are what words are given: the edges.
func values() []uint64 {
	return []uint64{0, 1, 2, 1<<63 - 1, 1 << 63, wholeWord - 1, wholeWord, api.Poison}
}

// live is a memory of so many live words, of which each holds something of its own, that is no place.
func live(words int) api.Memory {
	m := api.Memory{Words: make([]uint64, words), Live: slices.Repeat([]bool{true}, words)}
	for i := range m.Words {
		m.Words[i] = uint64(10000 + i)
	}
	return m
}

// lay is a memory of so many live words, with a list from a head on.
func lay(words int, head uint64, l ...api.Node) api.Memory {
	m := live(words)
	link := head
	for _, n := range l {
		m.Words[link] = n.At
		m.Words[n.At], m.Words[n.At+1], m.Words[n.At+3] = n.Key, n.Value, n.Hash
		link = n.At + 2
	}
	m.Words[link] = 0
	return m
}

// with is m, one word of which holds something else.
func with(m api.Memory, at, w uint64) api.Memory {
	m = clone(m)
	m.Words[at] = w
	return m
}

// without is m, one word of which is free.
func without(m api.Memory, at uint64) api.Memory {
	m = with(m, at, api.Poison)
	m.Live[at] = false
	return m
}

// faulty is m with a fault.
func faulty(m api.Memory) api.Memory {
	m.Fault = true
	return m
}

// great is the greatest memory, with as many nodes as there can be; of each two that stand side by side one has the hash of the other.
func great() (api.Memory, []api.Node) {
	var l []api.Node
	for i := range uint64(mostNodes) {
		l = append(l, api.Node{At: 1 + api.NodeWords*(mostNodes-1-i), Key: i % 2, Value: i, Hash: i / 2})
	}
	return lay(api.MaxWords, api.MaxWords-1, l...), l
}

func clone(m api.Memory) api.Memory {
	return api.Memory{Words: slices.Clone(m.Words), Live: slices.Clone(m.Live), Fault: m.Fault}
}

// noMemories are some that may not be.
func noMemories() []api.Memory {
	return []api.Memory{
		{},
		{Words: []uint64{}, Live: []bool{}, Fault: true},
		{Words: make([]uint64, 9)},
		{Live: slices.Repeat([]bool{true}, 9)},
		{Words: make([]uint64, 9), Live: slices.Repeat([]bool{true}, 8)},
		{Words: make([]uint64, 9), Live: slices.Repeat([]bool{true}, 10)},
		{Words: make([]uint64, api.MaxWords+1), Live: slices.Repeat([]bool{true}, api.MaxWords+1)},
		{Words: []uint64{0, 0, 0, 0, 0, 1}, Live: []bool{true, true, true, true, true, false}},
	}
}

// same is told here anew, so that it hangs on nothing that is tested elsewhere.
func same(a, b api.Memory) bool {
	return slices.Equal(a.Words, b.Words) && slices.Equal(a.Live, b.Live) && a.Fault == b.Fault
}

// empty says whether m is the zero value.
func empty(m api.Memory) bool {
	return len(m.Words) == 0 && len(m.Live) == 0 && !m.Fault
}

// roomy is m in lists with room behind their ends, and something there.
func roomy(m api.Memory) api.Memory {
	words := append(slices.Clone(m.Words), 5, 6, 7)
	lives := append(slices.Clone(m.Live), true, false, true)
	return api.Memory{Words: words[:len(m.Words)], Live: lives[:len(m.Live)], Fault: m.Fault}
}

// whole is m with the room behind its lists.
func whole(m api.Memory) api.Memory {
	return api.Memory{Words: slices.Clone(m.Words[:cap(m.Words)]), Live: slices.Clone(m.Live[:cap(m.Live)]), Fault: m.Fault}
}

// scrub writes over all of m, the room behind its lists, too.
func scrub(m api.Memory) {
	for i := range m.Words[:cap(m.Words)] {
		m.Words[:cap(m.Words)][i] ^= wholeWord
	}
	for i := range m.Live[:cap(m.Live)] {
		m.Live[:cap(m.Live)][i] = !m.Live[:cap(m.Live)][i]
	}
}

// apart asks a call twice of a memory with room, and fails if the memory changes, or if what is answered shares its lists with anything.
func apart(t *testing.T, m api.Memory, call func(api.Memory) api.Memory) {
	t.Helper()
	given := roomy(m)
	before := whole(given)
	first, second := call(given), call(given)
	if !same(whole(given), before) {
		t.Errorf("%v is changed: %v", before, whole(given))
	}
	want := clone(second)
	if empty(want) {
		t.Errorf("nothing is told of %v", before)
	}
	scrub(given)
	scrub(first)
	if !same(second, want) {
		t.Errorf("what is told of %v is shared: %v, then %v", before, want, second)
	}
}

// plain is a memory told otherwise: what the live words hold.
type plain struct {
	live  map[uint64]uint64
	fault bool
}

func plainOf(m api.Memory) *plain {
	p := &plain{live: map[uint64]uint64{}, fault: m.Fault}
	for i, w := range m.Words {
		if m.Live[i] {
			p.live[uint64(i)] = w
		}
	}
	return p
}

// in is the memory that m is by now.
func (p *plain) in(m api.Memory) api.Memory {
	m = clone(m)
	for at, w := range p.live {
		m.Words[at] = w
	}
	m.Fault = p.fault
	return m
}

// load is what the word so many behind a place holds, if it is there.
func (p *plain) load(place, behind uint64) (uint64, bool) {
	w, is := p.live[place+behind]
	is = is && place <= api.MaxWords
	p.fault = p.fault || !is
	return w, is
}

func (p *plain) store(place, behind, w uint64) bool {
	_, is := p.load(place, behind)
	if is {
		p.live[place+behind] = w
	}
	return is
}

// seek is one who seeks behind its step, by the chapter's table.
func (p *plain) seek(s api.Seek) api.Seek {
	var n, than uint64
	is, next := true, s.Phase
	switch s.Phase {
	case api.SkLink:
		n, is = p.load(s.Link, 0)
		if is {
			s.Node = n
		}
		next = api.SkHash
		if n == 0 {
			next = api.SkOver
		}
	case api.SkHash:
		n, is = p.load(s.Node, 3)
		than, next = s.Hash, api.SkKey
	case api.SkKey:
		n, is = p.load(s.Node, 0)
		than, next = s.Key, api.SkValue
	case api.SkValue:
		n, is = p.load(s.Node, 1)
		next = api.SkOver
		if is {
			s.Value, s.Found = n, true
		}
	}
	if compares := s.Phase == api.SkHash || s.Phase == api.SkKey; is && compares && n < than {
		s.Link, next = s.Node+2, api.SkLink
	} else if is && compares && n > than {
		next = api.SkOver
	}
	if !is {
		next = api.SkLost
	}
	s.Phase = next
	return s
}

// edit is one who changes behind its step, by the chapter's table.
func (p *plain) edit(e api.Edit) api.Edit {
	is, next := true, e.Phase
	at := e.Node.At
	switch e.Phase {
	case api.EdKey:
		is, next = p.store(at, 0, e.Node.Key), api.EdValue
	case api.EdValue:
		is, next = p.store(at, 1, e.Node.Value), api.EdHash
	case api.EdHash:
		is, next = p.store(at, 3, e.Node.Hash), api.EdNext
	case api.EdNext:
		is, next = p.store(at, 2, e.Next), api.EdLink
	case api.EdLoad:
		var n uint64
		n, is = p.load(at, 2)
		if is {
			e.Next = n
		}
		next = api.EdLink
	case api.EdLink:
		to := at
		if e.Cuts {
			to = e.Next
		}
		is, next = p.store(e.Link, 0, to), api.EdOver
	}
	if !is {
		next = api.EdLost
	}
	e.Phase = next
	return e
}

// list is the nodes from a head on, and whether they make a list: as many as there can be are gathered, and looked at then.
func (p *plain) list(head uint64) ([]api.Node, bool) {
	var l []api.Node
	words := []uint64{head}
	at, is := p.live[head]
	for at != 0 && len(l) <= len(p.live) { // more would be met twice
		if at > api.MaxWords {
			return nil, false
		}
		words = append(words, at, at+1, at+2, at+3)
		l = append(l, api.Node{At: at, Key: p.live[at], Value: p.live[at+1], Hash: p.live[at+3]})
		at = p.live[at+2]
	}
	for _, w := range words {
		_, there := p.live[w]
		is = is && there
	}
	slices.Sort(words)
	for i, n := range l[min(1, len(l)):] {
		is = is && (l[i].Hash < n.Hash || l[i].Hash == n.Hash && l[i].Key < n.Key)
	}
	if !is || len(slices.Compact(slices.Clone(words))) < len(words) {
		return nil, false
	}
	return l, true
}
