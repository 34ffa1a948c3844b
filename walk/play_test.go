package walk_test

import (
	"math"
	"slices"
	"testing"

	"afterglow/api"
	"afterglow/walk"
)

// mustPlay fails unless all come to where they are told otherwise to come, behind the picks.
func mustPlay(t *testing.T, w api.Walk, picks ...int) api.Walked {
	t.Helper()
	want := plainBegin(w)
	for _, pick := range picks {
		want = plainPick(t, w, want, pick)
	}
	s, e := walk.Play(w, picks...)
	if e != api.OK || !sameWalked(s, want) {
		t.Fatalf("Play(%v, %v): %v, %d, not %v", w, picks, s, e, want)
	}
	return s
}

// soughtSteps is how many steps it takes to seek in a list: two for each node that is passed by its hash, three by its key.
func soughtSteps(l []api.Node, hash, key uint64) int {
	steps := 0
	for _, n := range l {
		switch {
		case n.Hash > hash:
			return steps + 2
		case n.Hash == hash && n.Key > key:
			return steps + 3
		case n.Hash == hash && n.Key == key:
			return steps + 4
		case n.Hash == hash:
			steps++
		}
		steps += 2
	}
	return steps + 1
}

// wholeSteps is how many steps the writer makes in all.
func wholeSteps(w api.Walk) int {
	steps := 0
	for i, j := range w.Jobs {
		was, is := plainAfter(w, i), plainAfter(w, i+1)
		steps += soughtSteps(was, j.Node.Hash, j.Node.Key)
		if len(is) > len(was) {
			steps += 5
		} else if len(is) < len(was) {
			steps += 2
		}
	}
	return steps
}

// mustWhole fails unless the writer alone makes as many steps as told otherwise, and all are there then where as many picks of it come to.
func mustWhole(t *testing.T, w api.Walk) int {
	t.Helper()
	steps := wholeSteps(w)
	s, many, e := walk.Whole(w)
	if want := mustPlay(t, w, make([]int, steps)...); e != api.OK || many != steps || !sameWalked(s, want) {
		t.Fatalf("Whole(%v): %v, %d, %d, not %v, %d", w, s, many, e, want, steps)
	}
	if s.Done != len(w.Jobs) || s.Edits || s.Edit != (api.Edit{}) || s.Writer != (api.Seek{}) {
		t.Fatalf("Whole(%v): %v", w, s)
	}
	if steps > 0 && mustPlay(t, w, make([]int, steps-1)...).Done == s.Done {
		t.Fatalf("of %v %d steps are not needed", w, steps)
	}
	return many
}

// The chapter's examples.
func TestExamples(t *testing.T) {
	w := api.Walk{Memory: live(16), Jobs: []api.Job{cut(2, 7)}, Keys: [][2]uint64{{2, 7}}}
	clear(w.Memory.Words)
	w.Memory.Words[0], w.Memory.Words[4], w.Memory.Words[5], w.Memory.Words[7] = 4, 7, 70, 2
	picks := []int{1, 1, 0, 0, 0, 0, 0, 0}
	s, e := walk.Play(w, picks...)
	if seen := (api.Seek{Phase: api.SkKey, Hash: 2, Key: 7, Node: 4}); e != api.OK || s.Done != 1 || s.Memory.Words[0] != 0 || s.Readers[0] != seen {
		t.Errorf("%v, %d", s, e)
	}
	s, e = walk.Play(w, append(picks, 1, 1)...)
	if over := (api.Seek{Phase: api.SkOver, Hash: 2, Key: 7, Node: 4, Value: 70, Found: true}); e != api.OK || s.Readers[0] != over {
		t.Errorf("%v, %d", s, e)
	}
	if s, many, e := walk.Whole(w); e != api.OK || many != 6 || s.Done != 1 {
		t.Errorf("Whole: %v, %d, %d", s, many, e)
	}
	if l, e := walk.After(w, 1); e != api.OK || len(l) != 0 {
		t.Errorf("After: %v, %d", l, e)
	}
}

// P17.2: the writer, step by step: it puts, cuts, and goes past what is there already, and what is not.
func TestWriter(t *testing.T) {
	w := three()
	want := plainBegin(w)
	jobs := map[int]int{}
	for many := range wholeSteps(w) + 5 {
		s, e := walk.Play(w, make([]int, many)...)
		if e != api.OK || !sameWalked(s, want) {
			t.Fatalf("behind %d steps: %v, %d, not %v", many, s, e, want)
		}
		if jobs[s.Done]++; s.Edits {
			jobs[s.Done] += 100
		}
		want = plainPick(t, w, want, 0)
	}
	// Of each job all steps, and a hundred for each one with which it changes something: 1 9 is there, 5 5 is not.
	for done, want := range []int{510, 211, 513, 4, 9, 208, 5} {
		if jobs[done] != want {
			t.Errorf("job %d: %d, not %d", done, jobs[done], want)
		}
	}
}

// P17.2: each reader makes its own steps, and none when it is over; who is not there makes none.
func TestReaders(t *testing.T) {
	w := three()
	for who := range len(w.Keys) + 3 {
		for many := range 16 {
			s := mustPlay(t, w, slices.Repeat([]int{who}, many)...)
			for i, r := range s.Readers {
				if (who == i+1 && many > 0) == (r == plainBegin(w).Readers[i]) {
					t.Errorf("%d, picked %d times: %v", who, many, s.Readers)
				}
			}
		}
	}
	s := mustPlay(t, w, slices.Repeat([]int{1, 2, 3, 4}, 20)...)
	found := []bool{s.Readers[0].Found, s.Readers[1].Found, s.Readers[2].Found, s.Readers[3].Found}
	if !slices.Equal(found, []bool{true, true, false, false}) || s.Readers[0].Value != 30 || s.Readers[1].Value != 90 {
		t.Errorf("%v", s.Readers)
	}
}

// P17.2: picks that are passed over change nothing, wherever they stand.
func TestPassedOver(t *testing.T) {
	w := three()
	picks := slices.Repeat([]int{0, 1, 2, 0, 0, 3, 4}, 8)
	want := mustPlay(t, w, picks...)
	var more []int
	for _, pick := range picks {
		more = append(more, -1, pick, 5, 8, 9, math.MaxInt, math.MinInt)
	}
	if s, e := walk.Play(w, more...); e != api.OK || !sameWalked(s, want) {
		t.Errorf("%v, %d, not %v", s, e, want)
	}
	w.Jobs, w.Keys = nil, nil
	mustPlay(t, w, picks...)
}

// P17.2, P17.4: any walks, any picks, held against a walk told otherwise.
func TestAnyWalks(t *testing.T) {
	c := chance(17)
	none, all, edits := 0, 0, 0
	for range 800 {
		w := c.someWalk(24)
		mustWhole(t, w)
		s := mustPlay(t, w, c.somePicks(w, c.below(400))...)
		switch {
		case s.Edits:
			edits++
		case s.Done == len(w.Jobs):
			all++
		case s.Done == 0:
			none++
		}
	}
	if none < 20 || all < 100 || edits < 40 {
		t.Errorf("none, all, in between: %d, %d, %d", none, all, edits)
	}
}

// P17.2, P17.4: the greatest walk: what it says is read off its beginning, and held against one that is told otherwise as far as that goes.
func TestGreat(t *testing.T) {
	w := great()
	steps := wholeSteps(w)
	whole, many, e := walk.Whole(w)
	if e != api.OK || many != steps || steps < 10000 || !slices.Equal(plainNodes(whole.Memory, w.Head), plainAfter(w, len(w.Jobs))) {
		t.Errorf("Whole: %d, %d, not %d", many, e, steps)
	}
	if s, e := walk.Play(w, make([]int, steps)...); e != api.OK || !sameWalked(s, whole) {
		t.Errorf("Play: %d, %d", s.Done, e)
	}
	if s, e := walk.Play(w, make([]int, steps-1)...); e != api.OK || s.Done != len(w.Jobs)-1 {
		t.Errorf("Play, a step less: %d, %d", s.Done, e)
	}
	mustPlay(t, w, slices.Repeat([]int{0, 1, 2, 3, 4, 5, 6, 7, 8}, 60)...)
	s, e := walk.Play(w, slices.Repeat([]int{1, 2, 3, 4, 5, 6, 7, 8}, 2000)...)
	for i, r := range s.Readers {
		if want := uint64(122*i + 1); e != api.OK || r.Phase != api.SkOver || !r.Found || r.Value != want {
			t.Errorf("reader %d: %v, not %d", i, r, want)
		}
	}
}

// P17.4: no step, where there is no job; and readers stay where they are at first.
func TestWhole(t *testing.T) {
	w := three()
	if many := mustWhole(t, w); many != 10+11+13+4+9+8 {
		t.Errorf("%d", many)
	}
	for jobs := range w.Jobs {
		w := three()
		w.Jobs = w.Jobs[:jobs]
		mustWhole(t, w)
		w.Keys = nil
		mustWhole(t, w)
	}
	w.Jobs = nil
	if many := mustWhole(t, w); many != 0 {
		t.Errorf("%d", many)
	}
	if s, _, _ := walk.Whole(three()); !slices.Equal(s.Readers, plainBegin(three()).Readers) {
		t.Errorf("%v", s.Readers)
	}
}
