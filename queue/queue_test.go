package queue_test

import (
	"slices"
	"testing"

	"afterglow/api"
	"afterglow/queue"
)

// The examples of the chapter.
func TestExamples(t *testing.T) {
	q := mustPut(t, mustPut(t, mustNew(t, 4), 7, 1), 8, 2)
	if r, e := queue.Put(q, 9, 1); e != api.ErrArg || !empty(r) {
		t.Errorf("Put(%v, 9, 1): %v, %d", q, r, e)
	}
	if l := queue.Segments(q); l != [3]int{0, 1, 1} {
		t.Errorf("Segments(%v): %v", q, l)
	}
	if r, what, e := queue.Take(q); e != api.ErrNone || what != 0 || !empty(r) {
		t.Errorf("Take(%v): %v, %d, %d", q, r, what, e)
	}
	q = mustEnd(t, q, 5)
	if l := queue.Segments(q); l != [3]int{1, 1, 0} {
		t.Errorf("Segments(%v): %v", q, l)
	}
	q, what, e := queue.Take(q)
	if e != api.OK || what != 7 {
		t.Errorf("Take: %v, %d, %d", q, what, e)
	}
	q, l := mustDrain(t, mustEnd(t, q, 6), 5)
	if !slices.Equal(l, []uint64{8}) || !alike(q, api.Queue{Over: 6}) {
		t.Errorf("Drain: %v, %v", q, l)
	}
}

// P13.1: a queue of nothing; ErrArg, if no such period can be over.
func TestNew(t *testing.T) {
	for _, over := range []uint64{0, 1, 2, 16, 1 << 31, 1 << 32, 1 << 62, most - 1, most} {
		mustNew(t, over)
	}
	for _, over := range greats() {
		if q, e := queue.New(over); e != api.ErrArg || !empty(q) {
			t.Errorf("New(%d): %v, %d", over, q, e)
		}
	}
}

// P13.1: a queue may be, up to each edge.
func TestCheck(t *testing.T) {
	for _, q := range []api.Queue{
		{}, {List: []api.Callback{}}, row(0, 0), row(0, 1), row(0, 2), row(0, 0, 0, 1, 1, 2, 2), row(5, 0, 3, 5, 6, 7), row(5, 7), row(5, 7, 7), row(5, 0),
		level(0, 2, 16), level(9, 0, 16), level(9, 9, 16), level(9, 11, 16), row(9, 0, 1, 2, 3, 4, 5, 6, 7, 8, 8, 9, 9, 10, 10, 11, 11),
		row(most), row(most, 0), row(most, most), row(most, most+1), row(most, most+2), row(most, 0, most-1, most, most+1, most+2), row(most-1, most+1),
	} {
		if e := queue.Check(q); e != api.OK {
			t.Errorf("Check(%v): %d", q, e)
		}
	}
	for _, q := range noQueues() {
		if e := queue.Check(q); e != api.ErrQueue {
			t.Errorf("Check(%v): %d", q, e)
		}
	}
}

// P13.1: all queues of up to four callbacks of few periods, those that may be, and those that may not.
func TestCheckSmall(t *testing.T) {
	for _, over := range []uint64{0, 1, 2, 3, most - 1, most} {
		base := over - min(over, 3)
		for n := range 7 * 7 * 7 * 7 {
			for many := range 5 {
				var periods []uint64
				for i, rest := 0, n; i < many; i, rest = i+1, rest/7 {
					periods = append(periods, base+uint64(rest%7))
				}
				may := slices.IsSorted(periods) && (many == 0 || slices.Max(periods) <= over+2)
				q := row(over, periods...)
				if e := queue.Check(q); may != (e == api.OK) || !may != (e == api.ErrQueue) {
					t.Fatalf("Check(%v): %d", q, e)
				}
			}
		}
	}
}

// P13.1: of what may not be a call that tells an error tells ErrQueue, whatever else is wrong; the others tell nothing.
func TestNoQueue(t *testing.T) {
	for _, q := range noQueues() {
		for _, ahead := range append(aheads(), 1, 2) {
			if r, e := queue.Put(q, 7, ahead); e != api.ErrQueue || !empty(r) {
				t.Fatalf("Put(%v, 7, %d): %v, %d", q, ahead, r, e)
			}
		}
		for _, over := range append(greats(), 0, q.Over-1, q.Over, q.Over+1, most) {
			if r, e := queue.End(q, over); e != api.ErrQueue || !empty(r) {
				t.Fatalf("End(%v, %d): %v, %d", q, over, r, e)
			}
		}
		if r, what, e := queue.Take(q); e != api.ErrQueue || what != 0 || !empty(r) {
			t.Fatalf("Take(%v): %v, %d, %d", q, r, what, e)
		}
		for _, n := range append(edges(), 0, 1, 16, 17) {
			if r, l, e := queue.Drain(q, n); e != api.ErrQueue || len(l) != 0 || !empty(r) {
				t.Fatalf("Drain(%v, %d): %v, %v, %d", q, n, r, l, e)
			}
		}
		if l := queue.Segments(q); l != [3]int{} {
			t.Fatalf("Segments(%v): %v", q, l)
		}
		for _, other := range []api.Queue{q, {}, row(q.Over), level(5, 5, 16), row(4, 6), row(most, most+3)} {
			if r, e := queue.Join(q, other); e != api.ErrQueue || !empty(r) {
				t.Fatalf("Join(%v, %v): %v, %d", q, other, r, e)
			}
			if r, e := queue.Join(other, q); e != api.ErrQueue || !empty(r) {
				t.Fatalf("Join(%v, %v): %v, %d", other, q, r, e)
			}
		}
	}
}

// P13.1: Same tells apart whatever part is another one, also of those that may not be.
func TestSame(t *testing.T) {
	l := []api.Queue{
		{}, row(1), row(most + 1), row(0, 1), row(0, 1, 1), row(0, 1, 2), row(0, 2, 1), row(1, 1), row(0, 2), level(0, 1, 16), level(0, 1, 17), row(5, 5, 6, 7), row(5, 5, 6), row(5, 6, 7), row(5, 5, 7, 7), row(6, 5, 6, 7),
		{List: []api.Callback{{Period: 1, What: 2}}}, {List: []api.Callback{{Period: 0, What: 1}}}, {List: []api.Callback{{}}}, {List: []api.Callback{{Period: 1}}},
		{List: []api.Callback{{Period: 1, What: 2}, {Period: 1, What: 1}}}, {List: []api.Callback{{Period: 1, What: 1 << 63}}},
	}
	for i, a := range l {
		for j, b := range l {
			if same := queue.Same(a, told(b)); same != (i == j) {
				t.Errorf("Same(%v, %v): %v", a, b, same)
			}
		}
	}
	if !queue.Same(api.Queue{}, api.Queue{List: []api.Callback{}}) || !queue.Same(api.Queue{List: []api.Callback{}}, api.Queue{}) {
		t.Errorf("nil and empty rows are told apart")
	}
	a, b := row(5, 5, 6, 7), row(5, 5, 6, 7)
	a.List = roomy(a.List, behind)
	if !queue.Same(a, b) || !queue.Same(b, a) {
		t.Errorf("Same looks behind a row's end")
	}
}

// P13.1 to P13.4: what is handed in stays as it is, the room behind it, too, and what is answered is memory of its own.
func TestApart(t *testing.T) {
	for _, first := range append(noQueues(), row(5), row(5, 5, 6, 7), row(5, 1, 2, 3, 5), row(5, 6, 7), level(5, 5, 16)) {
		q := told(first)
		q.List = roomy(q.List, behind)
		all := whole(q.List)
		check := func(what string, r api.Queue, l []uint64) {
			t.Helper()
			want := told(r)
			if !alike(q, first) || !slices.Equal(whole(q.List), all) {
				t.Fatalf("behind %s: %v, and %v", what, q, whole(q.List))
			}
			scrub(q.List, api.Callback{Period: 555, What: 555})
			if !alike(r, want) {
				t.Fatalf("%s keeps its argument", what)
			}
			copy(q.List[:cap(q.List)], all)
			scrub(r.List, api.Callback{Period: 444, What: 444})
			scrub(l, 333)
			if !alike(q, first) || !slices.Equal(whole(q.List), all) {
				t.Fatalf("%s hands out its argument", what)
			}
		}
		queue.Check(q)
		queue.Same(q, q)
		queue.Segments(q)
		check("Check, Same, Segments", api.Queue{}, nil)
		for ahead := range 3 {
			r, _ := queue.Put(q, 7, ahead)
			check("Put", r, nil)
		}
		for _, over := range []uint64{4, 5, 6, 7, 100} {
			r, _ := queue.End(q, over)
			check("End", r, nil)
		}
		r, _, _ := queue.Take(q)
		check("Take", r, nil)
		for n := -1; n < 18; n++ {
			r, l, _ := queue.Drain(q, n)
			check("Drain", r, l)
		}
		for _, other := range []api.Queue{row(5), row(4), row(5, 5, 5, 6, 6, 7, 7), level(5, 5, 16), row(5, 9)} {
			o := told(other)
			o.List = roomy(o.List, behind)
			rest := whole(o.List)
			r, _ = queue.Join(q, o)
			check("Join", r, nil)
			r, _ = queue.Join(o, q)
			check("Join", r, nil)
			if !slices.Equal(whole(o.List), rest) {
				t.Fatalf("Join changes what it is handed: %v", whole(o.List))
			}
		}
	}
}
