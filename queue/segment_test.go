package queue_test

import (
	"testing"

	"afterglow/api"
	"afterglow/queue"
)

// P13.4: how many are done, wait, and are next.
func TestSegments(t *testing.T) {
	for _, c := range []struct {
		q    api.Queue
		want [3]int
	}{
		{row(0), [3]int{}}, {row(0, 0), [3]int{1}}, {row(0, 1), [3]int{0, 1}}, {row(0, 2), [3]int{0, 0, 1}}, {row(0, 0, 1, 2), [3]int{1, 1, 1}},
		{row(4, 0, 1, 2, 3, 4, 5, 5, 6), [3]int{5, 2, 1}}, {row(4, 5, 6, 6), [3]int{0, 1, 2}}, {row(4, 3, 4, 6), [3]int{2, 0, 1}},
		{level(4, 4, 16), [3]int{16}}, {level(4, 5, 16), [3]int{0, 16}}, {level(4, 6, 16), [3]int{0, 0, 16}},
		{row(most, 0, most, most+1, most+2), [3]int{2, 1, 1}}, {row(most, most+2), [3]int{0, 0, 1}},
	} {
		if l := queue.Segments(c.q); l != c.want {
			t.Errorf("Segments(%v): %v", c.q, l)
		}
	}
}

// labelled is q, what its callbacks are being from some number on.
func labelled(q api.Queue, from uint64) api.Queue {
	q = told(q)
	for i := range q.List {
		q.List[i].What = from + uint64(i)
	}
	return q
}

// P13.4: by their Periods; of one Period those of a ahead.
func TestJoin(t *testing.T) {
	for _, c := range []struct {
		a, b api.Queue
		want [][2]uint64
	}{
		{row(4), row(4), nil},
		{row(4, 5), row(4), [][2]uint64{{5, 1}}},
		{row(4), row(4, 5), [][2]uint64{{5, 21}}},
		{row(4, 5), row(4, 5), [][2]uint64{{5, 1}, {5, 21}}},
		{row(4, 5), row(4, 6), [][2]uint64{{5, 1}, {6, 21}}},
		{row(4, 6), row(4, 5), [][2]uint64{{5, 21}, {6, 1}}},
		{row(4, 4, 5, 6), row(4, 4, 5, 6), [][2]uint64{{4, 1}, {4, 21}, {5, 2}, {5, 22}, {6, 3}, {6, 23}}},
		{row(4, 0, 2, 6), row(4, 1, 3, 5), [][2]uint64{{0, 1}, {1, 21}, {2, 2}, {3, 22}, {5, 23}, {6, 3}}},
		{row(4, 5, 5), row(4, 0, 5, 6), [][2]uint64{{0, 21}, {5, 1}, {5, 2}, {5, 22}, {6, 23}}},
		{row(most, most+1, most+2), row(most, most+1, most+1), [][2]uint64{{most + 1, 1}, {most + 1, 21}, {most + 1, 22}, {most + 2, 2}}},
	} {
		a, b := c.a, labelled(c.b, 21)
		want := api.Queue{Over: a.Over}
		for _, pair := range c.want {
			want.List = append(want.List, api.Callback{Period: pair[0], What: pair[1]})
		}
		if q, e := queue.Join(a, b); e != api.OK || !alike(q, want) {
			t.Errorf("Join(%v, %v): %v, %d", a, b, q, e)
		}
	}
}

// P13.4: ErrArg, if both have not the same Over, ahead of ErrFull, if they are too many together.
func TestJoinErrors(t *testing.T) {
	for many := range 17 {
		for more := range 17 {
			a, b := level(4, 4, many), level(4, 5, more)
			q, e := queue.Join(a, b)
			if many+more > 16 {
				if e != api.ErrFull || !empty(q) {
					t.Errorf("Join(%v, %v): %v, %d", a, b, q, e)
				}
			} else if e != api.OK || len(q.List) != many+more {
				t.Errorf("Join(%v, %v): %v, %d", a, b, q, e)
			}
			for _, other := range []uint64{3, 5, 0, most} {
				b := level(other, min(other, 2), more)
				if q, e := queue.Join(a, b); e != api.ErrArg || !empty(q) {
					t.Errorf("Join(%v, %v): %v, %d", a, b, q, e)
				}
			}
		}
	}
}

// P13.4: any two come to what the queues told otherwise do, and each row is a part of it, in its order.
func TestJoinAny(t *testing.T) {
	c := chance(2)
	for range 20000 {
		a := c.some()
		b := c.someOf(a.Over, c.below(17-len(a.List)))
		want := plainOf(a)
		for _, one := range b.List {
			want.rows[one.Period] = append(want.rows[one.Period], one.What)
		}
		if q, e := queue.Join(a, b); e != api.OK || !alike(q, want.queue()) || queue.Check(q) != api.OK {
			t.Fatalf("Join(%v, %v): %v, %d, not %v", a, b, q, e, want.queue())
		}
	}
}
