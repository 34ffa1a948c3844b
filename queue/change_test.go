package queue_test

import (
	"math"
	"slices"
	"testing"

	"afterglow/api"
	"afterglow/queue"
)

// P13.2: behind all others, of the period Over and ahead.
func TestPut(t *testing.T) {
	for _, c := range []struct {
		q       api.Queue
		ahead   int
		periods []uint64
	}{
		{row(4), 1, []uint64{5}}, {row(4), 2, []uint64{6}}, {row(0), 1, []uint64{1}}, {row(0), 2, []uint64{2}},
		{row(4, 0), 1, []uint64{0, 5}}, {row(4, 4, 5), 1, []uint64{4, 5, 5}}, {row(4, 5), 2, []uint64{5, 6}}, {row(4, 6), 2, []uint64{6, 6}},
		{row(most), 1, []uint64{most + 1}}, {row(most), 2, []uint64{most + 2}}, {row(most, most+2), 2, []uint64{most + 2, most + 2}},
	} {
		want := row(c.q.Over, c.periods...)
		for _, what := range []uint64{0, 7, 1 << 63, math.MaxUint64} {
			want.List[len(want.List)-1].What = what
			if q, e := queue.Put(c.q, what, c.ahead); e != api.OK || !alike(q, want) {
				t.Errorf("Put(%v, %d, %d): %v, %d", c.q, what, c.ahead, q, e)
			}
		}
	}
	for _, period := range []uint64{0, 8, 9, 10} {
		if q, e := queue.Put(level(9, period, 15), 16, 1); e != api.OK || len(q.List) != 16 || q.List[15] != (api.Callback{Period: 10, What: 16}) {
			t.Errorf("Put of the last one: %v, %d", q, e)
		}
	}
}

// P13.2: ErrArg, if ahead is not 1 or 2, or a later one is there; ErrFull, if there are as many as can be; ErrArg goes first.
func TestPutErrors(t *testing.T) {
	for _, q := range []api.Queue{row(4), row(4, 5, 6), row(most, most+2), level(4, 4, 16), level(4, 6, 16), level(0, 0, 16)} {
		for _, ahead := range aheads() {
			if r, e := queue.Put(q, 7, ahead); e != api.ErrArg || !empty(r) {
				t.Errorf("Put(%v, 7, %d): %v, %d", q, ahead, r, e)
			}
		}
	}
	for _, q := range []api.Queue{row(4, 6), row(4, 5, 6), row(0, 2), row(most, most+2), level(4, 6, 15), level(4, 6, 16)} {
		if r, e := queue.Put(q, 7, 1); e != api.ErrArg || !empty(r) {
			t.Errorf("Put(%v, 7, 1): %v, %d", q, r, e)
		}
	}
	for _, q := range []api.Queue{level(4, 4, 16), level(4, 5, 16), level(4, 0, 16), level(most, most+1, 16)} {
		for ahead := 1; ahead <= 2; ahead++ {
			if r, e := queue.Put(q, 7, ahead); e != api.ErrFull || !empty(r) {
				t.Errorf("Put(%v, 7, %d): %v, %d", q, ahead, r, e)
			}
		}
	}
	if r, e := queue.Put(level(4, 6, 16), 7, 2); e != api.ErrFull || !empty(r) {
		t.Errorf("Put of the seventeenth, of the last period: %v, %d", r, e)
	}
}

// P13.2: the queue of that Over; ErrArg, if that is less, or can't be.
func TestEnd(t *testing.T) {
	for _, q := range []api.Queue{row(0), row(4), row(4, 5, 6), level(4, 6, 16), row(0, 0, 1, 2), row(most-1, most+1), row(most, most+2)} {
		for _, over := range []uint64{q.Over, q.Over + 1, q.Over + 2, q.Over + 3, 1 << 40, most - 1, most} {
			want := told(q)
			want.Over = over
			r, e := queue.End(q, over)
			if over < q.Over || over > most {
				if e != api.ErrArg || !empty(r) {
					t.Errorf("End(%v, %d): %v, %d", q, over, r, e)
				}
			} else if e != api.OK || !alike(r, want) || queue.Check(r) != api.OK {
				t.Errorf("End(%v, %d): %v, %d", q, over, r, e)
			}
		}
		for _, over := range greats() {
			if r, e := queue.End(q, over); e != api.ErrArg || !empty(r) {
				t.Errorf("End(%v, %d): %v, %d", q, over, r, e)
			}
		}
	}
	for _, q := range []api.Queue{row(1), row(4, 5, 6), level(4, 0, 16), row(most)} {
		for _, over := range []uint64{0, q.Over - 1} {
			if r, e := queue.End(q, over); e != api.ErrArg || !empty(r) {
				t.Errorf("End(%v, %d): %v, %d", q, over, r, e)
			}
		}
	}
}

// P13.3: the first one that is done; else ErrNone.
func TestTake(t *testing.T) {
	for _, q := range []api.Queue{row(0, 0), row(4, 4), row(4, 0), row(4, 0, 4, 5, 6), row(4, 3, 3), level(4, 4, 16), row(most, most), row(most, 0, most+2)} {
		want := api.Queue{List: q.List[1:], Over: q.Over}
		for _, what := range []uint64{0, 1, 7, math.MaxUint64} {
			q.List[0].What = what
			if r, got, e := queue.Take(q); e != api.OK || got != what || !alike(r, want) {
				t.Errorf("Take(%v): %v, %d, %d", q, r, got, e)
			}
		}
	}
	for _, q := range []api.Queue{row(0), row(0, 1), row(0, 2), row(4), row(4, 5), row(4, 6), level(4, 5, 16), row(most), row(most, most+1), row(most, most+2)} {
		if r, what, e := queue.Take(q); e != api.ErrNone || what != 0 || !empty(r) {
			t.Errorf("Take(%v): %v, %d, %d", q, r, what, e)
		}
	}
}

// P13.3: so many that are done, or all of them, if they are fewer; ErrArg, if most is below 0.
func TestDrain(t *testing.T) {
	for _, q := range []api.Queue{row(4), row(4, 5), row(4, 6, 6), row(4, 4), row(4, 0, 3, 4, 4, 5, 6), row(4, 4, 4, 4), level(4, 4, 16), level(4, 5, 16), row(4, 0, 1, 2, 3, 4, 4, 4, 4, 5, 5, 5, 5, 6, 6, 6, 6), row(most, most, most+1, most+2)} {
		can := 0
		for _, one := range q.List {
			if one.Period <= q.Over {
				can++
			}
		}
		for _, n := range []int{0, 1, 2, 3, 4, 5, 8, 15, 16, 17, 1 << 31, 1 << 32, math.MaxInt - 1, math.MaxInt} {
			k := min(n, can)
			r, l := mustDrain(t, q, n)
			if !alike(r, api.Queue{List: q.List[k:], Over: q.Over}) || len(l) != k {
				t.Errorf("Drain(%v, %d): %v, %v", q, n, r, l)
			}
			for i, what := range l {
				if what != q.List[i].What {
					t.Errorf("Drain(%v, %d): %v", q, n, l)
				}
			}
		}
		for _, n := range edges() {
			if r, l, e := queue.Drain(q, n); e != api.ErrArg || len(l) != 0 || !empty(r) {
				t.Errorf("Drain(%v, %d): %v, %v, %d", q, n, r, l, e)
			}
		}
	}
}

// P13.2, P13.3: rows of changes come to what the queue told otherwise does.
func TestRows(t *testing.T) {
	c := chance(1)
	for range 3000 {
		q := c.some()
		p := plainOf(q)
		for range 40 {
			first := told(q)
			switch c.below(4) {
			case 0, 1:
				what, ahead := uint64(c.below(9)), c.below(4)
				r, e := queue.Put(q, what, ahead)
				if f := p.put(what, ahead); e != f || e != api.OK && !empty(r) {
					t.Fatalf("Put(%v, %d, %d): %v, %d, not %d", q, what, ahead, r, e, f)
				} else if e == api.OK {
					q = r
				}
			case 2:
				if q.Over < most {
					p.over += uint64(c.below(2))
					q = mustEnd(t, q, p.over)
				}
			case 3:
				n := c.below(5)
				r, l := mustDrain(t, q, n)
				if k := p.drain(n); !slices.Equal(k, l) {
					t.Fatalf("Drain(%v, %d): %v, not %v", q, n, l, k)
				}
				q = r
			}
			if !alike(q, p.queue()) || queue.Check(q) != api.OK || queue.Segments(q) != p.segments() {
				t.Fatalf("%v came to %v, of %v, not %v", first, q, queue.Segments(q), p.queue())
			}
		}
	}
}
