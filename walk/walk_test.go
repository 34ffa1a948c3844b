package walk_test

import (
	"math"
	"slices"
	"testing"

	"afterglow/api"
	"afterglow/walk"
)

// mustBe fails unless a walk may be, and is at first as told otherwise.
func mustBe(t *testing.T, w api.Walk) {
	t.Helper()
	if e := walk.Check(w); e != api.OK {
		t.Errorf("Check(%v): %d", w, e)
	}
	want := plainBegin(w)
	if s, e := walk.Begin(w); e != api.OK || !sameWalked(s, want) {
		t.Errorf("Begin(%v): %v, %d, not %v", w, s, e, want)
	}
	if s, e := walk.Play(w); e != api.OK || !sameWalked(s, want) {
		t.Errorf("Play(%v), of no picks: %v, %d, not %v", w, s, e, want)
	}
}

// mustBeNone fails unless all tell this error of a walk, and nothing else.
func mustBeNone(t *testing.T, w api.Walk, want api.Errno) {
	t.Helper()
	if e := walk.Check(w); e != want {
		t.Fatalf("Check(%v): %d, not %d", w, e, want) // such a walk may have no end
	}
	if s, e := walk.Begin(w); e != want || !sameWalked(s, api.Walked{}) {
		t.Errorf("Begin(%v): %v, %d, not %d", w, s, e, want)
	}
	for _, picks := range [][]int{nil, {0, 0, 1}, {-1, 9, 1, 2}} {
		if s, e := walk.Play(w, picks...); e != want || !sameWalked(s, api.Walked{}) {
			t.Errorf("Play(%v, %v): %v, %d, not %d", w, picks, s, e, want)
		}
	}
	for _, jobs := range []int{0, 1, len(w.Jobs), -1, len(w.Jobs) + 1} {
		if l, e := walk.After(w, jobs); e != want || len(l) != 0 {
			t.Errorf("After(%v, %d): %v, %d, not %d", w, jobs, l, e, want)
		}
	}
	if s, many, e := walk.Whole(w); e != want || many != 0 || !sameWalked(s, api.Walked{}) {
		t.Errorf("Whole(%v): %v, %d, %d, not %d", w, s, many, e, want)
	}
}

// hasRoom says whether a job's node has room: all words are marked that are the head's, or a node's, or another job's.
func hasRoom(w api.Walk, job int) bool {
	marked := make([]bool, len(w.Memory.Words)+api.NodeWords)
	mark := func(at uint64) {
		if at < uint64(len(w.Memory.Words)) {
			copy(marked[at:], []bool{true, true, true, true})
		}
	}
	for _, n := range plainNodes(w.Memory, w.Head) {
		mark(n.At)
	}
	for i, j := range w.Jobs {
		if i != job && !j.Cuts {
			mark(j.Node.At)
		}
	}
	marked[w.Head] = true
	at := w.Jobs[job].Node.At
	for i := range uint64(4) {
		if w := w.Memory; at == 0 || at >= uint64(len(w.Words)) || at+i >= uint64(len(w.Words)) || !w.Live[at+i] || marked[at+i] {
			return false
		}
	}
	return true
}

// mustFit fails unless a walk may be just if all nodes that its jobs put have room.
func mustFit(t *testing.T, w api.Walk) bool {
	t.Helper()
	for i, j := range w.Jobs {
		if !j.Cuts && !hasRoom(w, i) {
			mustBeNone(t, w, api.ErrArg)
			return false
		}
	}
	mustBe(t, w)
	return true
}

// P17.1: walks of no jobs, no readers, no nodes; and as many as there may be.
func TestMayBe(t *testing.T) {
	mustBe(t, three())
	mustBe(t, great())
	for words := range 6 {
		for head := range words {
			mustBe(t, api.Walk{Memory: lay(words, uint64(head)), Head: uint64(head)})
			mustBe(t, api.Walk{Memory: lay(words, uint64(head)), Head: uint64(head), Jobs: []api.Job{}, Keys: [][2]uint64{}})
		}
	}
	for many := range api.MaxJobs + 1 {
		w := three()
		w.Jobs = slices.Repeat([]api.Job{cut(2, 3)}, many)
		for readers := range api.MaxCpus + 1 {
			w.Keys = slices.Repeat([][2]uint64{{2, 9}}, readers)
			mustBe(t, w)
		}
	}
}

// P17.1: hashes and keys are any words, whose readers, and the writer, seek from the head on.
func TestAnyKeys(t *testing.T) {
	for _, a := range places(3) {
		for _, b := range places(3) {
			w := three()
			w.Keys = [][2]uint64{{a, b}, {b, a}}
			w.Jobs[0] = put(14, a, b, a)
			mustBe(t, w)
			w.Jobs[0] = cut(b, a)
			mustBe(t, w)
		}
	}
}

// P17.1: one job more, or one reader more, than there may be.
func TestTooMany(t *testing.T) {
	for _, more := range []int{1, 2, 50} {
		w := three()
		w.Jobs = slices.Repeat([]api.Job{cut(2, 3)}, api.MaxJobs+more)
		mustBeNone(t, w, api.ErrArg)
		w = three()
		w.Keys = slices.Repeat([][2]uint64{{2, 3}}, api.MaxCpus+more)
		mustBeNone(t, w, api.ErrArg)
		w.Jobs = nil
		mustBeNone(t, w, api.ErrArg)
	}
}

// P17.1: a node that is put at each place, wherever it is, whatever other jobs there are; of one that is cut the place is nothing.
func TestRoom(t *testing.T) {
	for job, j := range three().Jobs {
		may, none := 0, 0
		for _, at := range places(34) {
			w := three()
			w.Jobs[job].Node.At = at
			among := mustFit(t, w)
			w.Jobs = w.Jobs[job : job+1]
			if alone := mustFit(t, w); alone {
				may++
			} else if none++; among {
				t.Errorf("%v has room among others alone", w.Jobs)
			}
		}
		if may == 0 || (none == 0) != j.Cuts {
			t.Errorf("job %d: %d may be, %d not", job, may, none)
		}
	}
}

// P17.1: two nodes that are put, of any hash and key, are not put on each other's words, whether they are there in the end or not.
func TestRoomOfTwo(t *testing.T) {
	for first := range uint64(15) {
		for second := range uint64(15) {
			for head := range uint64(15) {
				w := api.Walk{Memory: lay(14, min(head, 13)), Head: min(head, 13)}
				w.Jobs = []api.Job{put(first, 1, 2, 3), cut(1, 2), put(second, 1, 2, 3)}
				mustFit(t, w)
			}
		}
	}
}

// P17.1: a word that is free is nobody's room; who cuts asks for none.
func TestRoomThatIsFree(t *testing.T) {
	for at := range uint64(34) {
		w := three()
		w.Memory = without(w.Memory, at)
		if at >= 1 && at <= 13 {
			mustBeNone(t, w, api.ErrList)
			continue
		}
		if may := at == 0 || at >= 22 && at <= 28 || at == 33; mustFit(t, w) != may {
			t.Errorf("where %d is free", at)
		}
		w.Jobs = []api.Job{cut(2, 3), {Cuts: true, Node: api.Node{At: at}}, {Cuts: true, Node: api.Node{At: wholeWord, Value: 8}}}
		mustBe(t, w)
	}
}

// noMemories are some that may not be, or have a fault.
func noMemories() []api.Memory {
	fault := three().Memory
	fault.Fault = true
	return []api.Memory{
		{},
		{Words: []uint64{}, Live: []bool{}, Fault: true},
		{Words: make([]uint64, 34)},
		{Live: slices.Repeat([]bool{true}, 34)},
		{Words: make([]uint64, 34), Live: slices.Repeat([]bool{true}, 33)},
		{Words: make([]uint64, 34), Live: slices.Repeat([]bool{true}, 35)},
		{Words: make([]uint64, api.MaxWords+1), Live: slices.Repeat([]bool{true}, api.MaxWords+1)},
		with(without(three().Memory, 33), 33, 1),
		{Words: []uint64{0}, Live: []bool{true}, Fault: true},
		fault,
	}
}

// Errors: a memory that may not be, or has a fault, goes ahead of all else; then what is no list; then the rest.
func TestErrors(t *testing.T) {
	many := slices.Repeat([]api.Job{put(0, 1, 2, 3)}, api.MaxJobs+1)
	for _, head := range []uint64{13, 0, 14, 34, wholeWord} {
		for _, jobs := range [][]api.Job{nil, three().Jobs, {put(0, 1, 2, 3)}, many} {
			w := three()
			w.Head, w.Jobs = head, jobs
			for _, m := range noMemories() {
				w.Memory = m
				mustBeNone(t, w, api.ErrMemory)
			}
			if w.Memory = three().Memory; head != 13 {
				mustBeNone(t, w, api.ErrList)
			}
		}
	}
	w := three()
	w.Jobs = []api.Job{put(0, 1, 2, 3)}
	mustBeNone(t, w, api.ErrArg)
}

// P17.1: what leads from the head on is no list: out of order, met twice, free, not there.
func TestNoList(t *testing.T) {
	for _, link := range []uint64{13, 7, 3, 11} {
		for _, to := range []uint64{1, 2, 4, 5, 9, 10, 13, 31, 33, 34, 35, api.MaxWords, wholeWord - 1, wholeWord} {
			if w := three(); w.Memory.Words[link] != to {
				w.Memory = with(w.Memory, link, to)
				if link == 13 && (to == 1 || to == 9) || link == 7 && to == 9 { // fewer nodes: a list still
					mustBe(t, w)
				} else {
					mustBeNone(t, w, api.ErrList)
				}
			}
		}
	}
	for _, held := range [][2]uint64{{4, 1}, {8, 2}, {8, 3}, {1, 4}, {9, 3}, {9, 2}, {12, 0}} { // hashes, and keys
		w := three()
		w.Memory = with(w.Memory, held[0], held[1])
		mustBeNone(t, w, api.ErrList)
	}
}

// Nothing that is handed in changes, the room behind its lists, too; and what is told is new.
func TestApart(t *testing.T) {
	picks := []int{0, 1, 2, 3, 4, 9, -1, 0, 0, 1, 0, 0, 0, 0, 0, 0, 2, 2}
	for name, call := range map[string]func(api.Walk) (api.Walked, []api.Node){
		"Begin": func(w api.Walk) (api.Walked, []api.Node) {
			s, _ := walk.Begin(w)
			return s, nil
		},
		"Play": func(w api.Walk) (api.Walked, []api.Node) {
			given := roomy(picks, 1, 2)
			s, _ := walk.Play(w, given...)
			if !slices.Equal(whole(given)[:len(picks)+2], append(slices.Clone(picks), 1, 2)) {
				t.Errorf("the picks are changed: %v", whole(given))
			}
			return s, nil
		},
		"Whole": func(w api.Walk) (api.Walked, []api.Node) {
			s, _, _ := walk.Whole(w)
			return s, nil
		},
		"After": func(w api.Walk) (api.Walked, []api.Node) {
			l, _ := walk.After(w, 5)
			return api.Walked{}, l
		},
		"Check, and errors": func(w api.Walk) (api.Walked, []api.Node) {
			walk.Check(w)
			walk.After(w, 7)
			w.Jobs = append(slices.Clone(w.Jobs), put(0, 1, 2, 3))
			walk.Whole(w)
			return api.Walked{}, nil
		},
	} {
		given := roomyWalk(three())
		before := wholeWalk(given)
		s, l := call(given)
		again, m := call(given)
		if !sameWalk(wholeWalk(given), before) {
			t.Errorf("%s: %v is changed: %v", name, before, wholeWalk(given))
		}
		if !sameWalked(s, again) || !slices.Equal(l, m) {
			t.Errorf("%s: %v, %v, then %v, %v", name, s, l, again, m)
		}
		want, nodes := again, slices.Clone(m)
		want.Memory, want.Readers = clone(again.Memory), slices.Clone(again.Readers)
		scrubWalk(given)
		scrubWalked(s)
		scrub(l, api.Node{At: 7})
		if !sameWalked(again, want) || !slices.Equal(m, nodes) {
			t.Errorf("%s: what is told is shared: %v, %v, then %v, %v", name, want, nodes, again, m)
		}
	}
}

// P17.1, P17.2: picks, and jobs behind which the list is asked for, may be any numbers.
func TestAnyNumbers(t *testing.T) {
	w := three()
	for _, n := range []int{math.MinInt, -1 << 32, -2, -1, 5, 6, 8, 9, 10, 256, 1 << 32, 1<<32 + 1, math.MaxInt} {
		if s, e := walk.Play(w, n, n); e != api.OK || !sameWalked(s, plainBegin(w)) {
			t.Errorf("Play, %d: %v, %d", n, s, e)
		}
	}
	for _, n := range []int{math.MinInt, -1 << 32, -2, -1, 7, 8, 16, 17, 1 << 32, 1<<32 + 1, math.MaxInt} {
		if l, e := walk.After(w, n); e != api.ErrArg || len(l) != 0 {
			t.Errorf("After, %d: %v, %d", n, l, e)
		}
	}
}
