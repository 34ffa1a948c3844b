package rcu_test

import (
	"math"
	"slices"
	"testing"

	"afterglow/api"
	"afterglow/rcu"
)

// P14.2: what each kind does; all besides stays as it is.
func TestStep(t *testing.T) {
	for _, c := range []struct {
		o    api.RcOp
		how  func(*api.Rcu)
		what uint64
	}{
		{enters(0), func(r *api.Rcu) { r.Readers.Now, r.Readers.Nest[0] = 10, 3 }, 0},
		{enters(1), func(r *api.Rcu) { r.Readers.Now, r.Readers.Nest[1], r.Readers.Opened[1] = 10, 1, 10 }, 0},
		{leaves(0), func(r *api.Rcu) { r.Readers.Now, r.Readers.Nest[0] = 10, 1 }, 0},
		{leaves(2), func(r *api.Rcu) { r.Readers.Now, r.Readers.Nest[2], r.Readers.Opened[2] = 10, 0, 0 }, 0},
		{calls(0, 7), func(r *api.Rcu) {
			r.Queues[0].List = append(r.Queues[0].List, api.Callback{Period: 7, What: 7})
		}, 0},
		{calls(1, 0), func(r *api.Rcu) { r.Queues[1].List = []api.Callback{{Period: 7}} }, 0},
		{calls(2, math.MaxUint64), func(r *api.Rcu) {
			r.Queues[2].List = append(r.Queues[2].List, api.Callback{Period: 7, What: math.MaxUint64})
		}, 0},
		{picks(0), func(*api.Rcu) {}, 0}, // it is in a section, and not needed
		{picks(1), func(r *api.Rcu) { r.Grace.Needs[1] = false }, 0},
		{picks(2), func(*api.Rcu) {}, 0},
		{runs(0), func(r *api.Rcu) { r.Queues[0] = row(5, 11, 5, 6) }, 10},
		{api.RcOp{Kind: 4, Cpu: 1, What: 99}, func(r *api.Rcu) { r.Grace.Needs[1] = false }, 0},
		{api.RcOp{Kind: 5, Cpu: 0, What: 99}, func(r *api.Rcu) { r.Queues[0] = row(5, 11, 5, 6) }, 10},
		{api.RcOp{Kind: 1, Cpu: 0, What: 99}, func(r *api.Rcu) { r.Readers.Now, r.Readers.Nest[0] = 10, 3 }, 0},
	} {
		want := changed(c.how)
		if r, what, e := rcu.Step(sound(), c.o); e != api.OK || what != c.what || !alike(r, want) {
			t.Errorf("Step of %v: %v, %d, %d, not %v, %d", c.o, r, what, e, want, c.what)
		}
	}
}

// P14.2: which period is asked for, and waited for: the next one that has not begun.
func TestStepCall(t *testing.T) {
	fresh := still()
	asked := still()
	asked.Grace.Asked, asked.Queues[2] = 6, row(5, 1, 5, 6)
	begun := still()
	begun.Grace.Asked, begun.Grace.On, begun.Grace.Needs[1], begun.Queues[1] = 6, true, true, row(5, 1, 6)
	for _, c := range []struct {
		r      api.Rcu
		period int
	}{{fresh, 6}, {asked, 6}, {begun, 7}, {sound(), 7}} {
		for cpu := range 3 {
			want := told(c.r)
			want.Grace.Asked = c.period
			want.Queues[cpu].List = append(want.Queues[cpu].List, api.Callback{Period: uint64(c.period), What: 7})
			if r, what, e := rcu.Step(c.r, calls(cpu, 7)); e != api.OK || what != 0 || !alike(r, want) {
				t.Errorf("Step(%v) of a call: %v, %d, %d", c.r, r, what, e)
			}
		}
	}
}

// P14.2: with the last one that is needed the period is over, and each queue is told so; who begins one needs all CPUs.
func TestStepPick(t *testing.T) {
	r := changed(func(r *api.Rcu) { r.Grace.Needs[2] = false })
	want := changed(func(r *api.Rcu) {
		r.Grace = api.Grace{Done: 6, Asked: 7, Needs: make([]bool, 3)}
		for cpu := range r.Queues {
			r.Queues[cpu].Over = 6
		}
	})
	s, what, e := rcu.Step(r, picks(1))
	if e != api.OK || what != 0 || !alike(s, want) {
		t.Fatalf("a period is over: %v, %d, %d", s, what, e)
	}
	for cpu := range 3 {
		next := told(want)
		next.Grace.On, next.Grace.Needs = true, []bool{true, true, true}
		if n, what, e := rcu.Step(s, picks(cpu)); e != api.OK || what != 0 || !alike(n, next) {
			t.Errorf("the next one begins: %v, %d, %d", n, what, e)
		}
		if n, what, e := rcu.Step(still(), picks(cpu)); e != api.OK || what != 0 || !alike(n, still()) {
			t.Errorf("idle, and picked: %v, %d, %d", n, what, e)
		}
	}
	if n, l := mustRun(t, s, runs(0), runs(0), runs(2), runs(0)); !slices.Equal(l, []uint64{10, 11, 30, 12}) || rcu.Waiting(n) != 1 {
		t.Errorf("run behind that: %v, %v", n, l)
	}
}

// P14.2: no kind goes ahead of no CPU, and that of all others.
func TestStepErrors(t *testing.T) {
	full := changed(func(r *api.Rcu) {
		r.Readers.Now, r.Readers.Nest[1], r.Readers.Opened[1], r.Queues = late, 8, 4, []api.Queue{level(5, 5, 16), level(5, 6, 16), level(5, 7, 16)}
	})
	for _, r := range []api.Rcu{sound(), still(), full, mustNew(t, 1), mustNew(t, 8)} {
		cpus := len(r.Queues)
		for _, cpu := range append(noCpus(cpus), 0, cpus-1) {
			for _, kind := range noKinds() {
				if s, what, e := rcu.Step(r, api.RcOp{Kind: kind, Cpu: cpu, What: 7}); e != api.ErrOpRc || what != 0 || !empty(s) {
					t.Fatalf("Step of the kind %d, of the CPU %d: %v, %d, %d", kind, cpu, s, what, e)
				}
			}
		}
		for _, cpu := range noCpus(cpus) {
			if cpu >= 0 && cpu < cpus {
				continue
			}
			for kind := 1; kind <= 5; kind++ {
				if s, what, e := rcu.Step(r, api.RcOp{Kind: kind, Cpu: cpu, What: 7}); e != api.ErrArg || what != 0 || !empty(s) {
					t.Fatalf("Step of the kind %d, of the CPU %d: %v, %d, %d", kind, cpu, s, what, e)
				}
			}
		}
	}
	spent := still()
	spent.Grace.Done, spent.Grace.Asked = most, most
	for cpu := range spent.Queues {
		spent.Queues[cpu].Over = most
	}
	last := still()
	last.Grace = api.Grace{Done: most - 1, Asked: most, On: true, Needs: []bool{true, false, false}}
	for cpu := range last.Queues {
		last.Queues[cpu].Over = most - 1
	}
	for _, c := range []struct {
		r    api.Rcu
		o    api.RcOp
		want api.Errno
	}{
		{sound(), leaves(1), api.ErrNone}, {still(), leaves(0), api.ErrNone},
		{changed(func(r *api.Rcu) { r.Readers.Nest[0] = 8 }), enters(0), api.ErrFull},
		{changed(func(r *api.Rcu) { r.Readers.Now = late }), enters(1), api.ErrFull},
		{changed(func(r *api.Rcu) { r.Readers.Now = late }), leaves(0), api.ErrFull},
		{changed(func(r *api.Rcu) { r.Readers.Now = late }), leaves(1), api.ErrFull},
		{full, calls(0, 7), api.ErrFull}, {full, calls(1, 7), api.ErrFull}, {full, calls(2, 7), api.ErrFull},
		{spent, calls(0, 7), api.ErrFull}, {spent, calls(2, 7), api.ErrFull}, {last, calls(0, 7), api.ErrFull},
		{sound(), runs(1), api.ErrNone}, {sound(), runs(2), api.ErrNone}, {still(), runs(0), api.ErrNone}, {full, runs(1), api.ErrNone},
	} {
		if s, what, e := rcu.Step(c.r, c.o); e != c.want || what != 0 || !empty(s) {
			t.Errorf("Step(%v, %v): %v, %d, %d, not %d", c.r, c.o, s, what, e, c.want)
		}
	}
	// At each edge the last one is there still.
	asked := still()
	asked.Grace.Done, asked.Grace.Asked = most-1, most-1
	for cpu := range asked.Queues {
		asked.Queues[cpu].Over = most - 1
	}
	for _, c := range []struct {
		r api.Rcu
		o api.RcOp
	}{
		{asked, calls(1, 7)},
		{changed(func(r *api.Rcu) { r.Readers.Nest[0] = 7 }), enters(0)},
		{changed(func(r *api.Rcu) { r.Readers.Now = late - 1 }), enters(1)},
		{changed(func(r *api.Rcu) { r.Readers.Now = late - 1 }), leaves(0)},
		{changed(func(r *api.Rcu) { r.Queues[1] = level(5, 7, 15) }), calls(1, 7)},
		{full, runs(0)}, {full, picks(0)}, {full, picks(2)},
	} {
		if s, _, e := rcu.Step(c.r, c.o); e != api.OK || rcu.Check(s) != api.OK {
			t.Errorf("Step(%v, %v): %v, %d", c.r, c.o, s, e)
		}
	}
}

// P14.3: one behind the other, and what was run, in order; without an op it is as it was.
func TestRun(t *testing.T) {
	for _, r := range []api.Rcu{sound(), still(), mustNew(t, 1)} {
		for _, l := range [][]api.RcOp{nil, {}} {
			if s, whats := mustRun(t, r, l...); !alike(s, r) || len(whats) != 0 {
				t.Errorf("Run(%v) of nothing: %v, %v", r, s, whats)
			}
		}
	}
	l := []api.RcOp{runs(0), calls(1, 0), leaves(2), picks(2), runs(0), picks(1), runs(2), runs(0)}
	want := api.Rcu{
		Readers: api.Readers{Now: 10, Nest: []int{2, 0, 0}, Opened: []int{7, 0, 0}},
		Grace:   api.Grace{Done: 6, Asked: 7, Needs: make([]bool, 3)},
		Queues:  []api.Queue{row(6, 0), row(6, 0, 7), row(6, 31, 7)},
	}
	if r, whats := mustRun(t, sound(), l...); !alike(r, want) || !slices.Equal(whats, []uint64{10, 11, 30, 12}) {
		t.Errorf("Run: %v, %v", r, whats)
	}
	r := mustNew(t, 1)
	if _, whats := mustRun(t, r, calls(0, 0), calls(0, 0), picks(0), picks(0), runs(0), runs(0)); !slices.Equal(whats, []uint64{0, 0}) {
		t.Errorf("callbacks that are 0: %v", whats)
	}
}

// P14.3: the error of the first one that has one, whatever stands behind it; with it nothing else is told.
func TestRunErrors(t *testing.T) {
	deep := slices.Repeat([]api.RcOp{enters(1)}, 9)
	full := slices.Repeat([]api.RcOp{calls(0, 7)}, 17)
	for _, c := range []struct {
		l    []api.RcOp
		want api.Errno
	}{
		{[]api.RcOp{{}}, api.ErrOpRc}, {[]api.RcOp{{Kind: 6, Cpu: 9}, enters(9)}, api.ErrOpRc}, {[]api.RcOp{calls(0, 7), picks(0), {Kind: 6}, picks(9)}, api.ErrOpRc},
		{[]api.RcOp{enters(2), {}}, api.ErrArg}, {[]api.RcOp{picks(0), picks(-1), {}}, api.ErrArg}, {[]api.RcOp{enters(0), leaves(0), calls(2, 7), leaves(1)}, api.ErrArg},
		{[]api.RcOp{enters(0), leaves(0), leaves(0), {}}, api.ErrNone}, {[]api.RcOp{calls(0, 7), picks(0), picks(0), runs(0), {}}, api.ErrNone},
		{[]api.RcOp{calls(0, 7), picks(0), picks(0), picks(1), runs(1), runs(0)}, api.ErrNone}, {[]api.RcOp{calls(0, 7), picks(0), picks(0), picks(1), runs(0), runs(0), {}}, api.ErrNone},
		{append(deep[:8:8], picks(2)), api.ErrArg}, {append(deep[:9:9], picks(2)), api.ErrFull},
		{append(full[:16:16], picks(2)), api.ErrArg}, {append(full[:17:17], picks(2)), api.ErrFull},
	} {
		if r, whats, e := rcu.Run(mustNew(t, 2), c.l...); e != c.want || len(whats) != 0 || !empty(r) {
			t.Errorf("Run of %v: %v, %v, %d, not %d", c.l, r, whats, e, c.want)
		}
	}
}

// P14.2 to P14.4: any Rcu, behind any ops, one by one and in a row, as it is told otherwise.
func TestPlain(t *testing.T) {
	var c chance
	fine, wrong := 0, 0
	for range 6000 {
		first := c.some()
		p := plainOf(first)
		if !alike(p.rcu(), first) || rcu.Check(first) != api.OK {
			t.Fatalf("%v is told otherwise as %v: %d", first, p.rcu(), rcu.Check(first))
		}
		r := first
		var l []api.RcOp
		var whats []uint64
		errno := api.OK
		for range c.below(30) {
			o := c.op(len(p.in))
			if o.Kind == 2 && o.Cpu >= 0 && o.Cpu < len(p.in) && len(p.in[o.Cpu]) == 0 && c.below(8) > 0 {
				continue
			}
			what, want := p.step(o)
			s, got, e := rcu.Step(r, o)
			if e != want || got != what || e != api.OK && !empty(s) || e == api.OK && !alike(s, p.rcu()) {
				t.Fatalf("Step(%v, %v): %v, %d, %d, not %v, %d, %d", r, o, s, got, e, p.rcu(), what, want)
			}
			if e == api.ErrNone && c.below(8) > 0 {
				continue
			}
			l = append(l, o)
			if errno = e; e != api.OK {
				break
			}
			if o.Kind == 5 {
				whats = append(whats, what)
			}
			if r = s; rcu.Check(r) != api.OK || rcu.Waiting(r) != p.waiting() || rcu.Idle(r) != p.idle() {
				t.Fatalf("%v, behind %v: %v: %d, %v", first, l, r, rcu.Waiting(r), rcu.Idle(r))
			}
		}
		if errno != api.OK {
			r, whats = api.Rcu{}, nil
			wrong++
		} else {
			fine++
		}
		s, told, e := rcu.Run(first, l...)
		if e != errno || !alike(s, r) || !slices.Equal(told, whats) {
			t.Fatalf("Run(%v, %v): %v, %v, %d, not %v, %v, %d", first, l, s, told, e, r, whats, errno)
		}
	}
	if fine < 1000 || wrong < 1000 {
		t.Errorf("%d rows of ops have no error, %d have one", fine, wrong)
	}
}

// P14.3: a row may be long.
func TestRunLong(t *testing.T) {
	var l []api.RcOp
	var want []uint64
	for n := range uint64(20000) {
		l = append(l, calls(0, n), enters(1), picks(0), picks(0), picks(1), leaves(1), picks(1), runs(0))
		want = append(want, n)
	}
	r, whats := mustRun(t, mustNew(t, 2), l...)
	if r.Readers.Now != 40000 || r.Grace.Done != 20000 || !slices.Equal(whats, want) || !rcu.Idle(r) {
		t.Errorf("Run of many: %v, %d were run", r, len(whats))
	}
	if s, whats, e := rcu.Run(mustNew(t, 2), append(l, runs(0), picks(7))...); e != api.ErrNone || len(whats) != 0 || !empty(s) {
		t.Errorf("Run of many, and one that has an error: %v, %v, %d", s, whats, e)
	}
}
