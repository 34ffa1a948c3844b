package walk_test

import (
	"math"
	"slices"
	"testing"

	"afterglow/api"
	"afterglow/list"
)

const wholeWord = math.MaxUint64

// chance follows from a short rule, and is the same each time.
type chance uint64

func (c *chance) below(n int) int {
	*c = *c*6364136223846793005 + 1442695040888963407
	return int(uint64(*c>>33) % uint64(n))
}

// of is one of l.
func of[T any](c *chance, l ...T) T {
	return l[c.below(len(l))]
}

// places are some in a memory of so many words, and all edges: where no word is, where numbers get too great, and where they begin at 0 again.
func places(words int) []uint64 {
	l := []uint64{
		api.MaxWords - 4, api.MaxWords - 3, api.MaxWords - 2, api.MaxWords - 1, api.MaxWords, api.MaxWords + 1,
		1<<31 - 1, 1 << 31, 1<<32 - 1, 1 << 32, 1<<32 + 1, 1<<63 - 4, 1<<63 - 1, 1 << 63, 1<<63 + 1,
		wholeWord - 4, wholeWord - 3, wholeWord - 2, wholeWord - 1, wholeWord,
	}
	for at := range words + 2 {
		l = append(l, uint64(at))
	}
	return l
}

// live is a memory of so many live words, of which each holds something of its own, that is no place.
func live(words int) api.Memory {
	m := api.Memory{Words: make([]uint64, words), Live: slices.Repeat([]bool{true}, words)}
	for i := range m.Words {
		m.Words[i] = uint64(10000 + i)
	}
	return m
}

// lay is a memory of so many live words, with a list from a head on.
func lay(words int, head uint64, l ...api.Node) api.Memory {
	m := live(words)
	link := head
	for _, n := range l {
		m.Words[link] = n.At
		m.Words[n.At], m.Words[n.At+1], m.Words[n.At+3] = n.Key, n.Value, n.Hash
		link = n.At + 2
	}
	m.Words[link] = 0
	return m
}

// with is m, one word of which holds something else.
func with(m api.Memory, at, w uint64) api.Memory {
	m = clone(m)
	m.Words[at] = w
	return m
}

// without is m, one word of which is free.
func without(m api.Memory, at uint64) api.Memory {
	m = with(m, at, api.Poison)
	m.Live[at] = false
	return m
}

func clone(m api.Memory) api.Memory {
	return api.Memory{Words: slices.Clone(m.Words), Live: slices.Clone(m.Live), Fault: m.Fault}
}

// same is told here anew, so that it hangs on nothing that is tested elsewhere.
func same(a, b api.Memory) bool {
	return slices.Equal(a.Words, b.Words) && slices.Equal(a.Live, b.Live) && a.Fault == b.Fault
}

// sameWalked says whether all are at the same places.
func sameWalked(a, b api.Walked) bool {
	return same(a.Memory, b.Memory) && a.Done == b.Done && a.Edits == b.Edits && a.Edit == b.Edit && a.Writer == b.Writer && slices.Equal(a.Readers, b.Readers)
}

// cut is a job that cuts; what it says beside a hash and a key is nothing to it.
func cut(hash, key uint64) api.Job {
	return api.Job{Cuts: true, Node: api.Node{Key: key, Hash: hash}}
}

// put is a job that puts a node.
func put(at, hash, key, value uint64) api.Job {
	return api.Job{Node: api.Node{At: at, Key: key, Value: value, Hash: hash}}
}

// three is a walk in 34 words, with a list of three nodes from the word 13 on, behind which there is room for four more; behind these there is a word that nobody has.
func three() api.Walk {
	l := []api.Node{{At: 5, Key: 9, Value: 90, Hash: 1}, {At: 1, Key: 3, Value: 30, Hash: 2}, {At: 9, Key: 4, Value: 40, Hash: 2}}
	return api.Walk{
		Memory: lay(34, 13, l...),
		Head:   13,
		Jobs:   []api.Job{put(14, 2, 1, 50), cut(2, 3), put(18, 2, 3, 31), put(29, 1, 9, 91), cut(5, 5), cut(2, 1)},
		Keys:   [][2]uint64{{2, 3}, {1, 9}, {2, 1}, {7, 7}},
	}
}

// great is a walk in the greatest memory: each of its words but one is the head, or a node's, or one of those that come.
func great() api.Walk {
	const nodes = (api.MaxWords - 1) / api.NodeWords
	var l []api.Node
	for i := range uint64(nodes) {
		l = append(l, api.Node{At: 1 + api.NodeWords*(nodes-1-i), Key: i % 2, Value: i, Hash: i / 2})
	}
	w := api.Walk{Head: api.MaxWords - 1}
	for i := range uint64(api.MaxJobs / 2) {
		n := l[nodes-1-i]
		w.Jobs = append(w.Jobs, cut(61*i, 1), put(n.At, n.Hash, n.Key, n.Value))
		w.Keys = append(w.Keys, [2]uint64{61 * i, 1})
	}
	w.Memory = lay(api.MaxWords, w.Head, l[:nodes-api.MaxJobs/2]...)
	return w
}

// few are hashes, and keys, of nodes by chance: often some that are there.
func (c *chance) few() uint64 {
	return of[uint64](c, 0, 1, 2, 3, 3, wholeWord-1, wholeWord)
}

// someKey is a hash and a key: often those of one of these nodes.
func (c *chance) someKey(l []api.Node) [2]uint64 {
	if c.below(4) == 0 {
		return [2]uint64{c.few(), c.few()}
	}
	n := of(c, l...)
	return [2]uint64{n.Hash, n.Key}
}

// someWalk is one that may be, by chance: of as many nodes that are there, or are put, as were asked for, or fewer.
func (c *chance) someWalk(most int) api.Walk {
	many := 1 + c.below(most)
	w := api.Walk{Head: uint64(of(c, 0, 4*many+1))}
	var l []api.Node
	for i := range uint64(many) {
		n := api.Node{At: 1 + api.NodeWords*i, Key: c.few(), Value: uint64(c.below(1000)), Hash: c.few()}
		is := slices.ContainsFunc(l, func(o api.Node) bool { return o.Hash == n.Hash && o.Key == n.Key })
		if !is && c.below(2) == 0 {
			l = append(l, n)
		} else if len(w.Jobs) < api.MaxJobs {
			w.Jobs = slices.Insert(w.Jobs, c.below(len(w.Jobs)+1), api.Job{Node: n})
		}
	}
	sort(l)
	w.Memory = lay(4*many+2+c.below(3), w.Head, l...)
	for _, j := range w.Jobs {
		l = append(l, j.Node)
	}
	for range c.below(api.MaxJobs - len(w.Jobs) + 1) {
		k := c.someKey(l)
		j := api.Job{Cuts: true, Node: api.Node{At: uint64(c.below(40)), Key: k[1], Value: 7, Hash: k[0]}}
		w.Jobs = slices.Insert(w.Jobs, c.below(len(w.Jobs)+1), j)
	}
	for range c.below(api.MaxCpus + 1) {
		w.Keys = append(w.Keys, c.someKey(l))
	}
	return w
}

// somePicks are so many, some of them of nobody there.
func (c *chance) somePicks(w api.Walk, many int) []int {
	l := make([]int, many)
	writes := 1 + c.below(9)
	for i := range l {
		l[i] = c.below(len(w.Keys)+3) - 1
		if c.below(10) < writes {
			l[i] = 0
		}
	}
	return l
}

// sort puts nodes in order.
func sort(l []api.Node) {
	slices.SortFunc(l, func(a, b api.Node) int {
		if a.Hash < b.Hash || a.Hash == b.Hash && a.Key < b.Key {
			return -1
		}
		return 1
	})
}

// plainNodes is the nodes of a list that there is: they are gathered one by one.
func plainNodes(m api.Memory, head uint64) []api.Node {
	var l []api.Node
	for at := m.Words[head]; at != 0; at = m.Words[at+2] {
		l = append(l, api.Node{At: at, Key: m.Words[at], Value: m.Words[at+1], Hash: m.Words[at+3]})
	}
	return l
}

// plainAfter is what the list has behind so many jobs: told by what has each hash and key.
func plainAfter(w api.Walk, jobs int) []api.Node {
	has := map[[2]uint64]api.Node{}
	for _, n := range plainNodes(w.Memory, w.Head) {
		has[[2]uint64{n.Hash, n.Key}] = n
	}
	for _, j := range w.Jobs[:jobs] {
		k := [2]uint64{j.Node.Hash, j.Node.Key}
		if _, is := has[k]; j.Cuts {
			delete(has, k)
		} else if !is {
			has[k] = j.Node
		}
	}
	var l []api.Node
	for _, n := range has {
		l = append(l, n)
	}
	sort(l)
	return l
}

// plainBegin is where all are at first.
func plainBegin(w api.Walk) api.Walked {
	s := api.Walked{Memory: clone(w.Memory)}
	if len(w.Jobs) > 0 {
		s.Writer = api.Seek{Hash: w.Jobs[0].Node.Hash, Key: w.Jobs[0].Node.Key, Link: w.Head}
	}
	for _, k := range w.Keys {
		s.Readers = append(s.Readers, api.Seek{Hash: k[0], Key: k[1], Link: w.Head})
	}
	return s
}

// plainPick is where all are behind one more pick, by the chapter's words; each step is made in the whole memory.
func plainPick(t *testing.T, w api.Walk, s api.Walked, pick int) api.Walked {
	t.Helper()
	errno, over := api.OK, false
	switch {
	case pick >= 1 && pick <= len(s.Readers):
		s.Readers = slices.Clone(s.Readers)
		s.Memory, s.Readers[pick-1], errno = list.StepSeek(s.Memory, s.Readers[pick-1])
	case pick == 0 && s.Done < len(w.Jobs) && s.Edits:
		s.Memory, s.Edit, errno = list.StepEdit(s.Memory, s.Edit)
		over = s.Edit.Phase == api.EdOver
	case pick == 0 && s.Done < len(w.Jobs):
		s.Memory, s.Writer, errno = list.StepSeek(s.Memory, s.Writer)
		job := w.Jobs[s.Done]
		if s.Writer.Phase != api.SkOver {
			break
		}
		if !job.Cuts && !s.Writer.Found {
			s.Edits, s.Edit = true, api.Edit{Link: s.Writer.Link, Node: job.Node, Next: s.Writer.Node}
		} else if job.Cuts && s.Writer.Found {
			s.Edits, s.Edit = true, api.Edit{Phase: 4, Cuts: true, Link: s.Writer.Link, Node: api.Node{At: s.Writer.Node}}
		} else {
			over = true
		}
	}
	if errno != api.OK {
		t.Fatalf("%v, of %v: %d", s, w, errno)
	}
	if over {
		s.Done, s.Edits, s.Edit, s.Writer = s.Done+1, false, api.Edit{}, api.Seek{}
		if s.Done < len(w.Jobs) {
			s.Writer = api.Seek{Hash: w.Jobs[s.Done].Node.Hash, Key: w.Jobs[s.Done].Node.Key, Link: w.Head}
		}
	}
	return s
}

// roomyMemory is m in lists with room behind their ends, and something there.
func roomyMemory(m api.Memory) api.Memory {
	return api.Memory{Words: roomy(m.Words, 5, 6, 7), Live: roomy(m.Live, true, false, true), Fault: m.Fault}
}

// roomy is l with room behind its end, and something there.
func roomy[T any](l []T, behind ...T) []T {
	return append(slices.Clone(l), behind...)[:len(l)]
}

// roomyWalk is w in lists with room behind their ends.
func roomyWalk(w api.Walk) api.Walk {
	return api.Walk{Memory: roomyMemory(w.Memory), Head: w.Head, Jobs: roomy(w.Jobs, put(1, 2, 3, 4), cut(5, 6)), Keys: roomy(w.Keys, [2]uint64{8, 9})}
}

// whole is a copy of l with the room behind it.
func whole[T any](l []T) []T {
	return slices.Clone(l[:cap(l)])
}

// wholeWalk is w with the room behind its lists.
func wholeWalk(w api.Walk) api.Walk {
	m := api.Memory{Words: whole(w.Memory.Words), Live: whole(w.Memory.Live), Fault: w.Memory.Fault}
	return api.Walk{Memory: m, Head: w.Head, Jobs: whole(w.Jobs), Keys: whole(w.Keys)}
}

func sameWalk(a, b api.Walk) bool {
	return same(a.Memory, b.Memory) && a.Head == b.Head && slices.Equal(a.Jobs, b.Jobs) && slices.Equal(a.Keys, b.Keys)
}

// scrub writes over all of l, the room behind it, too.
func scrub[T any](l []T, with T) {
	for i := range l[:cap(l)] {
		l[:cap(l)][i] = with
	}
}

func scrubWalk(w api.Walk) {
	scrub(w.Memory.Words, 77)
	scrub(w.Memory.Live, false)
	scrub(w.Jobs, put(7, 7, 7, 7))
	scrub(w.Keys, [2]uint64{7, 7})
}

func scrubWalked(s api.Walked) {
	scrub(s.Memory.Words, 77)
	scrub(s.Memory.Live, false)
	scrub(s.Readers, api.Seek{Phase: 7})
}
