package reader_test

import (
	"math"
	"testing"

	"afterglow/api"
	"afterglow/reader"
)

// The examples of the chapter.
func TestExamples(t *testing.T) {
	r := mustRun(t, mustNew(t, 2), enter(0), enter(1), enter(0), leave(0))
	if !alike(r, api.Readers{Now: 4, Nest: []int{1, 1}, Opened: []int{1, 2}}) {
		t.Fatalf("behind four steps: %v", r)
	}
	if at, ok := reader.Oldest(r); !reader.Passed(r, 0) || reader.Passed(r, 1) || at != 1 || !ok {
		t.Errorf("%v: %v, %v; %d, %v", r, reader.Passed(r, 0), reader.Passed(r, 1), at, ok)
	}
	r, e := reader.Leave(r, 0)
	if at, ok := reader.Oldest(r); e != api.OK || !reader.Passed(r, 1) || reader.Passed(r, 2) || reader.Passed(r, 5) || at != 2 || !ok {
		t.Errorf("%v: %v, %v, %v; %d, %v", r, reader.Passed(r, 1), reader.Passed(r, 2), reader.Passed(r, 5), at, ok)
	}
	if _, e := reader.Leave(r, 0); e != api.ErrNone {
		t.Errorf("Leave(%v, 0): %d", r, e)
	}
	if _, e := reader.Enter(r, 2); e != api.ErrArg {
		t.Errorf("Enter(%v, 2): %d", r, e)
	}
}

// P11.1: of one to eight CPUs, all of them quiet, without steps; else ErrArg.
func TestNew(t *testing.T) {
	for cpus := 1; cpus <= 8; cpus++ {
		r, e := reader.New(cpus)
		if want := (api.Readers{Nest: make([]int, cpus), Opened: make([]int, cpus)}); e != api.OK || !alike(r, want) {
			t.Errorf("New(%d): %v, %d", cpus, r, e)
		}
	}
	for _, cpus := range append(edges(), 0, 9, 10, 64) {
		if r, e := reader.New(cpus); e != api.ErrArg || !empty(r) {
			t.Errorf("New(%d): %v, %d", cpus, r, e)
		}
	}
}

// P11.1: New's two rows lie apart from each other, and from those of another one.
func TestNewApart(t *testing.T) {
	for cpus := 1; cpus <= 8; cpus++ {
		a, b := mustNew(t, cpus), mustNew(t, cpus)
		scrub(a.Nest, 3)
		for _, opened := range a.Opened {
			if opened != 0 {
				t.Fatalf("New(%d): its rows share memory", cpus)
			}
		}
		if !alike(b, plainNew(cpus).readers()) || !alike(mustNew(t, cpus), b) {
			t.Fatalf("New(%d): %v, behind a change of another one", cpus, b)
		}
	}
}

// P11.1: readers may be, up to each edge.
func TestCheck(t *testing.T) {
	for _, r := range []api.Readers{
		sound(),
		{Nest: []int{0}, Opened: []int{0}},
		{Nest: make([]int, 8), Opened: make([]int, 8)},
		{Now: 2147483647, Nest: make([]int, 8), Opened: make([]int, 8)},
		{Now: 1, Nest: []int{1}, Opened: []int{1}},
		{Now: 2147483647, Nest: []int{8}, Opened: []int{2147483640}},
		{Now: 2147483647, Nest: []int{8, 1}, Opened: []int{1, 2147483647}},
		{Now: 8, Nest: []int{1, 1, 1, 1, 1, 1, 1, 1}, Opened: []int{8, 1, 7, 2, 6, 3, 5, 4}},
		{Now: 64, Nest: []int{8, 8, 8, 8, 8, 8, 8, 8}, Opened: []int{1, 2, 3, 4, 5, 6, 7, 8}},
		{Now: 100, Nest: []int{0, 8, 0, 3, 0}, Opened: []int{0, 92, 0, 91, 0}},
		{Now: 9, Nest: []int{0, 1, 1}, Opened: []int{0, 9, 8}},
		// What the chapter's words don't ask for: that there were steps enough for all that is nested.
		{Now: 1, Nest: []int{8}, Opened: []int{1}},
	} {
		if e := reader.Check(r); e != api.OK {
			t.Errorf("Check(%v): %d", r, e)
		}
	}
	for _, r := range noReaders() {
		if e := reader.Check(r); e != api.ErrReaders {
			t.Errorf("Check(%v): %d", r, e)
		}
	}
}

// P11.1: all readers of two CPUs whose numbers are small, those that may be, and those that may not.
func TestCheckSmall(t *testing.T) {
	ask := func(r api.Readers) {
		may := r.Now >= 0
		for cpu, nest := range r.Nest {
			opened := r.Opened[cpu]
			if nest < 0 || nest > 8 || opened < 0 || opened > r.Now || (nest == 0) != (opened == 0) {
				may = false
			}
		}
		if r.Opened[0] == r.Opened[1] && r.Opened[0] != 0 {
			may = false
		}
		if e := reader.Check(r); may != (e == api.OK) || !may != (e == api.ErrReaders) {
			t.Fatalf("Check(%v): %d", r, e)
		}
	}
	for now := -1; now <= 3; now++ {
		for a := -1; a <= 4; a++ {
			for b := -1; b <= 4; b++ {
				for nest := range 11 * 11 {
					ask(api.Readers{Now: now, Nest: []int{nest/11 - 1, nest%11 - 1}, Opened: []int{a, b}})
				}
			}
		}
	}
}

// P11.1: of what may not be a call that tells an error tells ErrReaders, whatever else is wrong; the others tell nothing.
func TestNoReaders(t *testing.T) {
	for _, r := range noReaders() {
		for _, n := range append(edges(), 0, 1, 2, 3, 8) {
			if q, e := reader.Enter(r, n); e != api.ErrReaders || !empty(q) {
				t.Fatalf("Enter(%v, %d): %v, %d", r, n, q, e)
			}
			if q, e := reader.Leave(r, n); e != api.ErrReaders || !empty(q) {
				t.Fatalf("Leave(%v, %d): %v, %d", r, n, q, e)
			}
			if reader.Quiet(r, n) || reader.Passed(r, n) {
				t.Fatalf("%v: Quiet(%d): %v, Passed(%d): %v", r, n, reader.Quiet(r, n), n, reader.Passed(r, n))
			}
		}
		for _, l := range [][]api.Reading{nil, {enter(0)}, {leave(0)}, {leave(9)}, {enter(0), leave(0), enter(-1)}} {
			if q, n, e := reader.Run(r, l...); e != api.ErrReaders || n != 0 || !empty(q) {
				t.Fatalf("Run(%v, %v): %v, %d, %d", r, l, q, n, e)
			}
		}
		if at, ok := reader.Oldest(r); at != 0 || ok {
			t.Fatalf("Oldest(%v): %d, %v", r, at, ok)
		}
	}
}

// P11.1: Same tells apart whatever part is another one, also of those that may not be.
func TestSame(t *testing.T) {
	l := []api.Readers{
		{},
		{Now: 1},
		{Nest: []int{0}, Opened: []int{0}},
		{Nest: []int{0}},
		{Opened: []int{0}},
		{Nest: []int{0, 0}, Opened: []int{0, 0}},
		{Nest: []int{0, 0}, Opened: []int{0}},
		{Nest: []int{0}, Opened: []int{0, 0}},
		{Now: math.MinInt, Nest: []int{math.MaxInt}, Opened: []int{-1}},
		sound(),
		changed(func(r *api.Readers) { r.Now = 10 }),
		changed(func(r *api.Readers) { r.Nest[0] = 1 }),
		changed(func(r *api.Readers) { r.Nest[2] = 2 }),
		changed(func(r *api.Readers) { r.Nest[1] = 1 }),
		changed(func(r *api.Readers) { r.Opened[0] = 8 }),
		changed(func(r *api.Readers) { r.Opened[2] = 2 }),
		changed(func(r *api.Readers) { r.Opened[1] = 1 }),
		changed(func(r *api.Readers) { r.Nest[0], r.Nest[2] = r.Nest[2], r.Nest[0] }),
		changed(func(r *api.Readers) { r.Opened[0], r.Opened[2] = r.Opened[2], r.Opened[0] }),
		changed(func(r *api.Readers) { r.Nest, r.Opened = r.Opened, r.Nest }),
		changed(func(r *api.Readers) { r.Nest, r.Opened = r.Nest[:2], r.Opened[:2] }),
		changed(func(r *api.Readers) { r.Nest, r.Opened = append(r.Nest, 0), append(r.Opened, 0) }),
	}
	for i, a := range l {
		for j, b := range l {
			if same := reader.Same(a, told(b)); same != (i == j) {
				t.Errorf("Same(%v, %v): %v", a, b, same)
			}
		}
	}
	if !reader.Same(api.Readers{}, api.Readers{Nest: []int{}, Opened: []int{}}) || !reader.Same(api.Readers{Nest: []int{}}, api.Readers{Opened: []int{}}) {
		t.Errorf("nil and empty rows are told apart")
	}
	a, b := sound(), sound()
	a.Nest, b.Opened = roomy(a.Nest), roomy(b.Opened)
	if !reader.Same(a, b) {
		t.Errorf("Same looks behind a row's end")
	}
}

// P11.1: what is handed in stays as it is.
func TestAskedStays(t *testing.T) {
	for _, r := range append(noReaders(), sound()) {
		q := told(r)
		q.Nest, q.Opened = roomy(q.Nest), roomy(q.Opened)
		nest, opened := whole(q.Nest), whole(q.Opened)
		reader.Check(q)
		reader.Same(q, q)
		reader.Quiet(q, 0)
		reader.Passed(q, 0)
		reader.Oldest(q)
		if !alike(q, r) || !alike(api.Readers{Nest: nest, Opened: opened}, api.Readers{Nest: whole(q.Nest), Opened: whole(q.Opened)}) {
			t.Fatalf("%v was asked, and is %v", r, q)
		}
	}
}
