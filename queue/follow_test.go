package queue_test

import (
	"slices"
	"testing"

	"afterglow/api"
	"afterglow/queue"
)

// deep is how many changes, one behind the other, are all gone through.
const deep = 7

// life is what became of a queue: what was put, and for which periods, what was taken.
type life struct {
	q     api.Queue
	put   []api.Callback
	taken int
}

// putting is l behind a Put, if that has no error.
func (l life) putting(t *testing.T, ahead int) (life, bool) {
	t.Helper()
	what := uint64(100 + len(l.put))
	q, e := queue.Put(l.q, what, ahead)
	if e != api.OK {
		if ahead == 1 && queue.Segments(l.q)[2] == 0 || ahead == 2 {
			t.Fatalf("Put(%v, .., %d): %d", l.q, ahead, e)
		}
		return life{}, false
	}
	l.put = append(slices.Clip(l.put), api.Callback{Period: l.q.Over + uint64(ahead), What: what})
	l.q = q
	return l, true
}

// taking is l behind a Take, if that has no error: what it takes is the next one that was put, and its period is over.
func (l life) taking(t *testing.T) (life, bool) {
	t.Helper()
	q, what, e := queue.Take(l.q)
	can := l.taken < len(l.put) && l.put[l.taken].Period <= l.q.Over
	if e == api.OK && (!can || what != l.put[l.taken].What) || e != api.OK && (can || e != api.ErrNone) {
		t.Fatalf("Take(%v): %v, %d, %d, behind %v, of which %d were taken", l.q, q, what, e, l.put, l.taken)
	}
	l.q = q
	l.taken++
	return l, can
}

// sound fails unless what waits is what was put, and not taken, and all segments together.
func (l life) sound(t *testing.T) {
	t.Helper()
	if !slices.Equal(l.q.List, l.put[l.taken:]) || queue.Check(l.q) != api.OK {
		t.Fatalf("%v, behind %v, of which %d were taken", l.q, l.put, l.taken)
	}
	s := queue.Segments(l.q)
	if s[0]+s[1]+s[2] != len(l.q.List) {
		t.Fatalf("Segments(%v): %v", l.q, s)
	}
	q := mustEnd(t, l.q, l.q.Over+2)
	if s := queue.Segments(q); s != [3]int{len(l.q.List), 0, 0} {
		t.Fatalf("two periods behind %v there wait %v", l.q, s)
	}
	if r, whats := mustDrain(t, q, len(l.q.List)); len(r.List) != 0 || len(whats) != len(l.q.List) {
		t.Fatalf("two periods behind %v there can be taken %v", l.q, whats)
	}
}

// on goes through all changes that can come behind l.
func (l life) on(t *testing.T, steps int) {
	t.Helper()
	l.sound(t)
	if steps == 0 {
		return
	}
	for ahead := 1; ahead <= 2; ahead++ {
		if m, ok := l.putting(t, ahead); ok {
			m.on(t, steps-1)
		}
	}
	if m, ok := l.taking(t); ok {
		m.on(t, steps-1)
	}
	for more := uint64(1); more <= 2; more++ {
		m := l
		m.q = mustEnd(t, l.q, l.q.Over+more)
		m.on(t, steps-1)
	}
}

// P13.5: what is put is taken, in order, and not ahead of its period; ended for two periods nothing waits; segments together are all. All rows of some changes.
func TestLives(t *testing.T) {
	for _, over := range []uint64{0, 1, most - 2*deep - 2} {
		life{q: mustNew(t, over)}.on(t, deep)
	}
}

// P13.5: Drain in parts is Drain, of any queue, and of any parts; so are as many Takes.
func TestParts(t *testing.T) {
	c := chance(3)
	for range 20000 {
		q := c.some()
		a, b := c.below(9), c.below(9)
		first, l := mustDrain(t, q, a)
		second, m := mustDrain(t, first, b)
		whole, n := mustDrain(t, q, a+b)
		if !queue.Same(second, whole) || !slices.Equal(append(l, m...), n) {
			t.Fatalf("Drain(%v) of %d, and %d: %v, %v; of both: %v", q, a, b, second, l, n)
		}
		one := q
		var taken []uint64
		for range a + b {
			r, what, e := queue.Take(one)
			if e == api.ErrNone {
				break
			}
			one, taken = r, append(taken, what)
		}
		if !queue.Same(one, whole) || !slices.Equal(taken, n) {
			t.Fatalf("%v: %d times taken: %v, %v; drained: %v", q, a+b, one, taken, n)
		}
	}
}

// P13.5: segments together are all, of any queue, and of two that are joined each segment is that of both.
func TestTogether(t *testing.T) {
	c := chance(4)
	for range 20000 {
		a := c.some()
		b := c.someOf(a.Over, c.below(17-len(a.List)))
		q, e := queue.Join(a, b)
		if e != api.OK {
			t.Fatalf("Join(%v, %v): %d", a, b, e)
		}
		s, of, and := queue.Segments(q), queue.Segments(a), queue.Segments(b)
		all := 0
		for i := range s {
			all += s[i]
			if s[i] != of[i]+and[i] {
				t.Fatalf("Segments(%v): %v, of %v and %v", q, s, of, and)
			}
		}
		if all != len(q.List) {
			t.Fatalf("Segments(%v): %v", q, s)
		}
	}
}
