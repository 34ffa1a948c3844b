package walk_test

import (
	"slices"
	"testing"

	"afterglow/api"
	"afterglow/walk"
)

// mustAfter fails unless the list has behind so many jobs what it has, told otherwise.
func mustAfter(t *testing.T, w api.Walk, jobs int) []api.Node {
	t.Helper()
	want := plainAfter(w, jobs)
	l, e := walk.After(w, jobs)
	if e != api.OK || !slices.Equal(l, want) {
		t.Fatalf("After(%v, %d): %v, %d, not %v", w, jobs, l, e, want)
	}
	return l
}

// P17.3: job by job: put, cut, put again elsewhere, there already, not there, cut.
func TestAfter(t *testing.T) {
	w := three()
	want := [][]uint64{{5, 1, 9}, {5, 14, 1, 9}, {5, 14, 9}, {5, 14, 18, 9}, {5, 14, 18, 9}, {5, 14, 18, 9}, {5, 18, 9}}
	for jobs := range len(w.Jobs) + 1 {
		var at []uint64
		for _, n := range mustAfter(t, w, jobs) {
			at = append(at, n.At)
		}
		if !slices.Equal(at, want[jobs]) {
			t.Errorf("behind %d jobs: %v", jobs, at)
		}
	}
	if l := mustAfter(t, w, 6); l[1] != w.Jobs[2].Node {
		t.Errorf("%v", l)
	}
	for _, jobs := range []int{-1, 7} {
		if l, e := walk.After(w, jobs); e != api.ErrArg || len(l) != 0 {
			t.Errorf("After, %d: %v, %d", jobs, l, e)
		}
	}
}

// P17.3: of no jobs, and of a list of none.
func TestAfterNone(t *testing.T) {
	w := api.Walk{Memory: lay(9, 0)}
	if l := mustAfter(t, w, 0); len(l) != 0 {
		t.Errorf("%v", l)
	}
	if l, e := walk.After(w, 1); e != api.ErrArg || len(l) != 0 {
		t.Errorf("%v, %d", l, e)
	}
	w.Jobs = []api.Job{cut(0, 0), put(1, 0, 0, 0), cut(0, 0), cut(0, 0), put(5, 0, 0, 9)}
	for jobs := range 6 {
		mustAfter(t, w, jobs)
	}
}

// P17.3: nodes at the edges of hashes and keys come to stand in order.
func TestAfterOrder(t *testing.T) {
	words := []uint64{0, 1, 1<<63 - 1, 1 << 63, wholeWord}
	for _, hash := range words {
		for _, key := range words {
			for _, other := range words {
				w := api.Walk{Memory: lay(17, 0, api.Node{At: 1, Key: 1, Value: 5, Hash: 1 << 63}), Head: 0}
				w.Jobs = []api.Job{put(9, hash, key, 6), put(5, other, hash, 7), cut(hash, key), put(13, key, other, 8)}
				for jobs := range 5 {
					mustAfter(t, w, jobs)
				}
				mustWhole(t, w)
			}
		}
	}
}

// P17.3: any walks, and the greatest; behind all steps of the writer the list has just that.
func TestAfterAny(t *testing.T) {
	c := chance(173)
	longest := 0
	for range 1000 {
		w := c.someWalk(30)
		for jobs := range len(w.Jobs) + 1 {
			longest = max(longest, len(mustAfter(t, w, jobs)))
		}
		s, _, e := walk.Whole(w)
		if l := plainNodes(s.Memory, w.Head); e != api.OK || !slices.Equal(l, plainAfter(w, len(w.Jobs))) {
			t.Fatalf("Whole(%v): %v, %d", w, l, e)
		}
	}
	if longest < 15 {
		t.Errorf("the longest list is %d", longest)
	}
	w := great()
	for jobs := range len(w.Jobs) + 1 {
		mustAfter(t, w, jobs)
	}
}
