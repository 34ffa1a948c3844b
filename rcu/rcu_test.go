package rcu_test

import (
	"math"
	"slices"
	"testing"

	"afterglow/api"
	"afterglow/rcu"
)

// The examples of the chapter.
func TestExamples(t *testing.T) {
	r := mustNew(t, 2)
	if s, l := mustRun(t, r, calls(0, 7), picks(0), picks(0), picks(1), runs(0)); !slices.Equal(l, []uint64{7}) || !rcu.Idle(s) {
		t.Errorf("called, picked, and run: %v, %v", s, l)
	}
	s, l := mustRun(t, r, enters(1), calls(0, 7), picks(0), picks(0), picks(1))
	if q, what, e := rcu.Step(s, runs(0)); e != api.ErrNone || what != 0 || !empty(q) || len(l) != 0 {
		t.Errorf("while 1 is in a section: %v, %d, %d, %v", q, what, e, l)
	}
	if q, l := mustRun(t, s, leaves(1), picks(1), runs(0)); !slices.Equal(l, []uint64{7}) || !rcu.Idle(q) {
		t.Errorf("1 has left: %v, %v", q, l)
	}
	s, _ = mustRun(t, r, calls(0, 7), calls(1, 8))
	if q, l := mustSettle(t, s); !slices.Equal(l, []uint64{7, 8}) || !rcu.Idle(q) {
		t.Errorf("settled: %v, %v", q, l)
	}
}

// P14.1: of one to eight CPUs, all of it new; else ErrArg.
func TestNew(t *testing.T) {
	for cpus := 1; cpus <= 8; cpus++ {
		want := api.Rcu{
			Readers: api.Readers{Nest: make([]int, cpus), Opened: make([]int, cpus)},
			Grace:   api.Grace{Needs: make([]bool, cpus)},
			Queues:  make([]api.Queue, cpus),
		}
		if r := mustNew(t, cpus); !alike(r, want) || rcu.Check(r) != api.OK || !rcu.Idle(r) {
			t.Errorf("New(%d): %v", cpus, r)
		}
	}
	for _, cpus := range append(edges(), 0, 9, 10, 16, 64) {
		if r, e := rcu.New(cpus); e != api.ErrArg || !empty(r) {
			t.Errorf("New(%d): %v, %d", cpus, r, e)
		}
	}
}

// P14.1: what may be, up to each edge, and what may not, of each cause.
func TestCheck(t *testing.T) {
	for _, how := range []func(*api.Rcu){
		func(*api.Rcu) {},
		func(r *api.Rcu) { *r = still() },
		func(r *api.Rcu) { r.Readers.Now = 7 },
		func(r *api.Rcu) { r.Readers.Now = late },
		func(r *api.Rcu) { r.Readers.Nest[0] = 8 },
		func(r *api.Rcu) { r.Grace.Needs = []bool{true, true, true} },
		func(r *api.Rcu) { r.Queues[0] = level(5, 7, 16) },
		func(r *api.Rcu) { r.Queues[1] = level(5, 0, 16) },
		func(r *api.Rcu) { r.Queues[1] = row(5, 1, 0, 1, 2, 3, 4, 5, 5, 6, 6, 7, 7) },
		func(r *api.Rcu) { r.Grace.Asked, r.Queues[2] = 6, row(5, 1, 6) },
		func(r *api.Rcu) { *r = still(); r.Grace.Asked = 6; r.Queues[2] = level(5, 6, 16) },
		func(r *api.Rcu) { *r = still(); r.Queues[0] = level(5, 5, 16) },
	} {
		if r := changed(how); rcu.Check(r) != api.OK {
			t.Errorf("Check(%v): %d", r, rcu.Check(r))
		}
	}
	great := api.Rcu{Readers: api.Readers{Now: late, Nest: []int{8}, Opened: []int{late}}, Grace: api.Grace{Done: most - 1, Asked: most, On: true, Needs: []bool{true}}, Queues: []api.Queue{level(most-1, most, 16)}}
	if e := rcu.Check(great); e != api.OK {
		t.Errorf("Check(%v): %d", great, e)
	}
	for _, r := range noRcus() {
		if e := rcu.Check(r); e != api.ErrRcu {
			t.Errorf("Check(%v): %d", r, e)
		}
	}
}

// P14.1: all small ones: numbers of CPUs that are not the same, and rows of few periods.
func TestCheckSmall(t *testing.T) {
	for n := range 6 * 6 * 6 {
		a, b, c := n%6, n/6%6, n/36
		r := api.Rcu{Readers: api.Readers{Nest: make([]int, a), Opened: make([]int, a)}, Grace: api.Grace{Needs: make([]bool, b)}, Queues: make([]api.Queue, c)}
		may := a > 0 && a == b && b == c
		if e := rcu.Check(r); may != (e == api.OK) || !may != (e == api.ErrRcu) {
			t.Errorf("Check(%v): %d", r, e)
		}
	}
	for n := range 4 * 3 * 2 * 4 * 5 * 5 {
		done, ahead, on, over, first, second := n%4, n/4%3, n/12%2 == 1, uint64(n/24%4), uint64(n/96%5), uint64(n/480)
		g := api.Grace{Done: done, Asked: done + ahead, On: on, Needs: []bool{false, on}}
		graced := on && ahead > 0 || !on && ahead < 2
		queued := over == uint64(done) && first <= second && second <= uint64(done+ahead)
		for cpu := range 2 {
			r := api.Rcu{Readers: api.Readers{Nest: make([]int, 2), Opened: make([]int, 2)}, Grace: g, Queues: []api.Queue{row(uint64(done), 0), row(uint64(done), 0)}}
			r.Queues[cpu] = row(over, 7, first, second)
			may := graced && queued
			if e := rcu.Check(r); may != (e == api.OK) || !may != (e == api.ErrRcu) {
				t.Fatalf("Check(%v): %d", r, e)
			}
		}
	}
}

// P14.1: of what may not be a call that tells an error tells ErrRcu, whatever else is wrong; the others tell nothing.
func TestNoRcu(t *testing.T) {
	for _, r := range noRcus() {
		for _, kind := range append(noKinds(), 1, 2, 3, 4, 5) {
			for _, cpu := range append(noCpus(3), 0, 1, 2) {
				o := api.RcOp{Kind: kind, Cpu: cpu, What: 7}
				if s, what, e := rcu.Step(r, o); e != api.ErrRcu || what != 0 || !empty(s) {
					t.Fatalf("Step(%v, %v): %v, %d, %d", r, o, s, what, e)
				}
			}
		}
		for _, l := range [][]api.RcOp{nil, {}, {picks(0)}, {runs(0), runs(0)}, {{}}, {picks(0), enters(9)}} {
			if s, whats, e := rcu.Run(r, l...); e != api.ErrRcu || len(whats) != 0 || !empty(s) {
				t.Fatalf("Run(%v, %v): %v, %v, %d", r, l, s, whats, e)
			}
		}
		if s, whats, e := rcu.Settle(r); e != api.ErrRcu || len(whats) != 0 || !empty(s) {
			t.Fatalf("Settle(%v): %v, %v, %d", r, s, whats, e)
		}
		if rcu.Waiting(r) != 0 || rcu.Idle(r) {
			t.Fatalf("Waiting(%v): %d; Idle: %v", r, rcu.Waiting(r), rcu.Idle(r))
		}
	}
}

// P14.1: Same tells apart whatever part is another one, also of those that may not be.
func TestSame(t *testing.T) {
	l := []api.Rcu{{}, still(), sound(), {Queues: make([]api.Queue, 1)}, {Queues: make([]api.Queue, 2)}}
	for _, how := range []func(*api.Rcu){
		func(r *api.Rcu) { r.Readers.Now++ },
		func(r *api.Rcu) { r.Readers.Nest[0]++ },
		func(r *api.Rcu) { r.Readers.Nest[2]++ },
		func(r *api.Rcu) { r.Readers.Nest = r.Readers.Nest[:2] },
		func(r *api.Rcu) { r.Readers.Opened[0]++ },
		func(r *api.Rcu) { r.Readers.Opened[1]++ },
		func(r *api.Rcu) { r.Readers.Opened = nil },
		func(r *api.Rcu) { r.Readers = api.Readers{} },
		func(r *api.Rcu) { r.Grace.Done-- },
		func(r *api.Rcu) { r.Grace.Asked-- },
		func(r *api.Rcu) { r.Grace.On = false },
		func(r *api.Rcu) { r.Grace.Needs[0] = true },
		func(r *api.Rcu) { r.Grace.Needs[2] = false },
		func(r *api.Rcu) { r.Grace.Needs = append(r.Grace.Needs, false) },
		func(r *api.Rcu) { r.Grace = api.Grace{} },
		func(r *api.Rcu) { r.Queues = r.Queues[:2] },
		func(r *api.Rcu) { r.Queues = append(r.Queues, api.Queue{}) },
		func(r *api.Rcu) { r.Queues = nil },
		func(r *api.Rcu) { r.Queues[0], r.Queues[2] = r.Queues[2], r.Queues[0] },
		func(r *api.Rcu) { r.Queues[0].Over++ },
		func(r *api.Rcu) { r.Queues[2].Over-- },
		func(r *api.Rcu) { r.Queues[0].List[0].Period-- },
		func(r *api.Rcu) { r.Queues[0].List[1].What++ },
		func(r *api.Rcu) { r.Queues[2].List[1].What ^= 1 << 63 },
		func(r *api.Rcu) { r.Queues[2].List = r.Queues[2].List[:1] },
		func(r *api.Rcu) { r.Queues[1].List = []api.Callback{{}} },
	} {
		l = append(l, changed(how))
	}
	for i, a := range l {
		for j, b := range l {
			if same := rcu.Same(a, told(b)); same != (i == j) {
				t.Errorf("Same(%v, %v): %v", a, b, same)
			}
		}
	}
	full := still()
	for i := range full.Queues {
		full.Queues[i].List = []api.Callback{}
	}
	if !rcu.Same(full, still()) || !rcu.Same(still(), full) || !rcu.Same(api.Rcu{}, api.Rcu{Queues: []api.Queue{}}) {
		t.Errorf("nil and empty rows are told apart")
	}
	if a := roomy(sound()); !rcu.Same(a, sound()) || !rcu.Same(sound(), a) {
		t.Errorf("Same looks behind a row's end")
	}
}

// P14.4: how many wait, and whether it is idle: nobody is in a section, nobody waits, no period is on, nor asked for.
func TestWaitingIdle(t *testing.T) {
	for _, c := range []struct {
		how     func(*api.Rcu)
		waiting int
		idle    bool
	}{
		{func(*api.Rcu) {}, 0, true},
		{func(r *api.Rcu) { r.Readers.Now = late }, 0, true},
		{func(r *api.Rcu) { r.Readers.Nest[0], r.Readers.Opened[0] = 1, 9 }, 0, false},
		{func(r *api.Rcu) { r.Readers.Nest[2], r.Readers.Opened[2] = 8, 1 }, 0, false},
		{func(r *api.Rcu) { r.Grace.Asked = 6 }, 0, false},
		{func(r *api.Rcu) { r.Grace.Asked, r.Grace.On, r.Grace.Needs[2] = 6, true, true }, 0, false},
		{func(r *api.Rcu) { r.Grace.Asked, r.Grace.On, r.Grace.Needs[0] = 7, true, true }, 0, false},
		{func(r *api.Rcu) { r.Queues[0] = row(5, 1, 5) }, 1, false},
		{func(r *api.Rcu) { r.Queues[2] = row(5, 1, 0, 5) }, 2, false},
		{func(r *api.Rcu) { r.Queues[1], r.Grace.Asked = level(5, 6, 16), 6 }, 16, false},
		{func(r *api.Rcu) { *r = sound() }, 5, false},
		{func(r *api.Rcu) { r.Queues = []api.Queue{level(5, 5, 16), level(5, 4, 16), level(5, 0, 16)} }, 48, false},
	} {
		r := still()
		c.how(&r)
		if n, idle := rcu.Waiting(r), rcu.Idle(r); n != c.waiting || idle != c.idle {
			t.Errorf("Waiting(%v): %d; Idle: %v", r, n, idle)
		}
	}
	for cpus := 1; cpus <= 8; cpus++ {
		r := mustNew(t, cpus)
		for cpu := range cpus {
			r.Queues[cpu] = level(0, 0, 16)
			if n := rcu.Waiting(r); n != 16*(cpu+1) || rcu.Idle(r) {
				t.Errorf("Waiting(%v): %d", r, n)
			}
		}
	}
}

// room is a row of any things with room behind its end, and something there.
func room[T any](l []T, with T) []T {
	return append(slices.Clone(l), slices.Repeat([]T{with}, 20)...)[:len(l)]
}

// roomy is r, each of its rows with room behind its end, and something there.
func roomy(r api.Rcu) api.Rcu {
	r.Readers.Nest, r.Readers.Opened, r.Grace.Needs = room(r.Readers.Nest, 55), room(r.Readers.Opened, 66), room(r.Grace.Needs, true)
	r.Queues = room(r.Queues, level(77, 77, 3))
	for i, q := range r.Queues {
		r.Queues[i].List = room(q.List, api.Callback{Period: 88, What: 99})
	}
	return r
}

// whole is r with the room behind its rows, in memory of its own.
func whole(r api.Rcu) api.Rcu {
	r.Readers.Nest, r.Readers.Opened, r.Grace.Needs = r.Readers.Nest[:cap(r.Readers.Nest)], r.Readers.Opened[:cap(r.Readers.Opened)], r.Grace.Needs[:cap(r.Grace.Needs)]
	r.Queues = slices.Clone(r.Queues[:cap(r.Queues)])
	for i, q := range r.Queues {
		r.Queues[i].List = q.List[:cap(q.List)]
	}
	return told(r)
}

// scrub writes over all of r, the room behind its rows, too.
func scrub(r api.Rcu) {
	for _, l := range [][]int{r.Readers.Nest, r.Readers.Opened} {
		for i := range l[:cap(l)] {
			l[:cap(l)][i] = -7 - i
		}
	}
	for i, need := range r.Grace.Needs[:cap(r.Grace.Needs)] {
		r.Grace.Needs[:cap(r.Grace.Needs)][i] = !need
	}
	for i, q := range r.Queues[:cap(r.Queues)] {
		for j := range q.List[:cap(q.List)] {
			q.List[:cap(q.List)][j] = api.Callback{Period: math.MaxUint64, What: uint64(i + j)}
		}
		r.Queues[:cap(r.Queues)][i] = api.Queue{Over: math.MaxUint64}
	}
}

// keepsApart fails unless what is handed in stays as it is, the room behind its rows, too, and shares no memory with what is answered.
func keepsApart(t *testing.T, r api.Rcu, does func(api.Rcu) api.Rcu) {
	t.Helper()
	in := roomy(r)
	all := whole(in)
	out := does(in)
	if !alike(in, r) || !alike(whole(in), all) {
		t.Fatalf("%v was handed in, and is %v", r, in)
	}
	want := told(out)
	scrub(in)
	if !alike(out, want) {
		t.Fatalf("%v is kept: %v, not %v", r, out, want)
	}
	in = roomy(r)
	scrub(does(in))
	if !alike(in, r) || !alike(whole(in), all) {
		t.Fatalf("what came of %v is changed in it: %v", r, in)
	}
}

// P14.1 to P14.5: what is handed in stays as it is, and is not kept.
func TestApart(t *testing.T) {
	var c chance
	for range 300 {
		r := c.some()
		cpus := len(r.Queues)
		cpu := c.below(cpus)
		var l []api.RcOp
		for range c.below(9) {
			l = append(l, c.op(cpus))
		}
		ops := append(slices.Clone(l), picks(-5), picks(-5))[:len(l)]
		for _, does := range []func(api.Rcu) api.Rcu{
			func(r api.Rcu) api.Rcu { s, _, _ := rcu.Step(r, enters(cpu)); return s },
			func(r api.Rcu) api.Rcu { s, _, _ := rcu.Step(r, leaves(cpu)); return s },
			func(r api.Rcu) api.Rcu { s, _, _ := rcu.Step(r, calls(cpu, 7)); return s },
			func(r api.Rcu) api.Rcu { s, _, _ := rcu.Step(r, picks(cpu)); return s },
			func(r api.Rcu) api.Rcu { s, _, _ := rcu.Step(r, runs(cpu)); return s },
			func(r api.Rcu) api.Rcu { s, _, _ := rcu.Run(r); return s },
			func(r api.Rcu) api.Rcu { s, _, _ := rcu.Run(r, ops...); return s },
			func(r api.Rcu) api.Rcu { s, _, _ := rcu.Settle(r); return s },
			func(r api.Rcu) api.Rcu { rcu.Check(r); rcu.Same(r, r); rcu.Waiting(r); rcu.Idle(r); return api.Rcu{} },
		} {
			keepsApart(t, r, does)
		}
		if !slices.Equal(ops, l) || !slices.Equal(ops[:len(l)+2][len(l):], []api.RcOp{picks(-5), picks(-5)}) {
			t.Fatalf("%v was handed in, and is %v", l, ops)
		}
	}
	for cpus := 1; cpus <= 8; cpus++ {
		scrub(mustNew(t, cpus))
		if r := mustNew(t, cpus); !rcu.Idle(r) {
			t.Fatalf("New(%d) hands out what it keeps: %v", cpus, r)
		}
	}
}

// P14.2 to P14.5: no two rows of what is answered share memory, though those that are handed in do.
func TestApartRows(t *testing.T) {
	shared := row(5, 1, 4, 5, 5, 5).List
	r := still()
	for i := range r.Queues {
		r.Queues[i].List = shared
	}
	r.Readers.Opened = r.Readers.Nest
	for _, l := range [][]api.RcOp{nil, {picks(0)}, {calls(0, 7), picks(0)}, {runs(0), runs(1), runs(2)}, {calls(0, 7), picks(0), picks(0), picks(1), picks(2)}} {
		s, _ := mustRun(t, r, l...)
		for i := range s.Queues {
			want := told(s)
			all := s.Queues[i].List[:cap(s.Queues[i].List)]
			for j := range all {
				all[j] = api.Callback{Period: 444, What: 444}
			}
			want.Queues[i].List = s.Queues[i].List
			if !alike(s, want) {
				t.Fatalf("behind %v rows share memory: %v, not %v", l, s, want)
			}
		}
		want := told(s)
		all := s.Readers.Nest[:cap(s.Readers.Nest)]
		for j := range all {
			all[j] = 444
		}
		if !slices.Equal(s.Readers.Opened, want.Readers.Opened) {
			t.Fatalf("behind %v Nest and Opened share memory", l)
		}
	}
}
