package rcu_test

import (
	"slices"
	"testing"

	"afterglow/api"
	"afterglow/rcu"
)

// P14.5: it, settled, and what was run, in order.
func TestSettle(t *testing.T) {
	two := mustNew(t, 2)
	for _, c := range []struct {
		cpus  int
		ops   []api.RcOp
		done  int
		whats []uint64
	}{
		{2, nil, 0, nil},
		{2, []api.RcOp{calls(0, 7), calls(1, 8)}, 1, []uint64{7, 8}},
		{2, []api.RcOp{calls(1, 8), calls(0, 7)}, 1, []uint64{7, 8}},
		{2, []api.RcOp{calls(0, 7), picks(0)}, 1, []uint64{7}},
		{2, []api.RcOp{calls(0, 7), calls(1, 8), picks(0)}, 1, []uint64{8, 7}},                     // 0 reports, then 1, that runs 8; then 0 runs 7
		{2, []api.RcOp{calls(0, 7), calls(1, 8), picks(1), picks(1)}, 1, []uint64{7, 8}},           // 1 has reported
		{2, []api.RcOp{calls(0, 7), calls(1, 8), picks(1), picks(1), picks(0)}, 1, []uint64{7, 8}}, // both are done
		{2, []api.RcOp{calls(0, 7), picks(0), calls(0, 9), calls(1, 8)}, 2, []uint64{7, 9, 8}},     // 0 begins the second one, 1 reports, then 0
		{2, []api.RcOp{calls(0, 7), calls(0, 6), calls(0, 5), calls(1, 4), calls(1, 3)}, 1, []uint64{7, 6, 5, 4, 3}},
		{1, []api.RcOp{calls(0, 7), picks(0), calls(0, 8), calls(0, 9)}, 2, []uint64{7, 8, 9}},
		{3, []api.RcOp{calls(2, 1), calls(1, 2), calls(0, 3)}, 1, []uint64{3, 2, 1}},
		{3, []api.RcOp{calls(2, 1), picks(0), calls(1, 2), calls(0, 3), calls(2, 4)}, 2, []uint64{1, 3, 2, 4}},
		{2, []api.RcOp{calls(0, 7), picks(0), picks(0), picks(1), runs(0)}, 1, nil},
		{2, []api.RcOp{enters(0), calls(0, 7), leaves(0)}, 1, []uint64{7}},
	} {
		r, _ := mustRun(t, mustNew(t, c.cpus), c.ops...)
		want := told(r)
		want.Grace = api.Grace{Done: c.done, Asked: c.done, Needs: make([]bool, c.cpus)}
		for cpu := range want.Queues {
			want.Queues[cpu] = api.Queue{Over: uint64(c.done)}
		}
		if s, whats := mustSettle(t, r); !alike(s, want) || !slices.Equal(whats, c.whats) {
			t.Errorf("settled behind %v: %v, %v, not %v, %v", c.ops, s, whats, want, c.whats)
		}
	}
	if s, whats := mustSettle(t, still()); !alike(s, still()) || len(whats) != 0 || !alike(two, mustNew(t, 2)) {
		t.Errorf("settled twice: %v, %v", s, whats)
	}
}

// P14.5: periods that nobody waits for are gone through, too; and the last ones that there can be.
func TestSettlePeriods(t *testing.T) {
	for _, done := range []int{0, 5, most - 2} {
		for ahead := range 3 {
			r := still()
			r.Grace.Done, r.Grace.Asked, r.Grace.On, r.Grace.Needs[1] = done, done+ahead, ahead == 2, ahead == 2
			want := still()
			want.Grace.Done, want.Grace.Asked = done+ahead, done+ahead
			for cpu := range 3 {
				r.Queues[cpu].Over, want.Queues[cpu].Over = uint64(done), uint64(done+ahead)
			}
			if s, whats := mustSettle(t, r); !alike(s, want) || len(whats) != 0 {
				t.Errorf("Settle(%v): %v, %v", r, s, whats)
			}
		}
	}
}

// P14.5: ErrOpen, if a CPU is in a section, whatever waits.
func TestSettleOpen(t *testing.T) {
	for cpus := 1; cpus <= 8; cpus++ {
		for cpu := range cpus {
			for _, l := range [][]api.RcOp{{enters(cpu)}, {enters(cpu), enters(cpu), leaves(cpu)}, {calls(0, 7), picks(0), enters(cpu)}} {
				r, _ := mustRun(t, mustNew(t, cpus), l...)
				if s, whats, e := rcu.Settle(r); e != api.ErrOpen || len(whats) != 0 || !empty(s) {
					t.Errorf("Settle(%v): %v, %v, %d", r, s, whats, e)
				}
				r, _ = mustRun(t, r, leaves(cpu))
				mustSettle(t, r)
			}
		}
	}
	if s, whats, e := rcu.Settle(sound()); e != api.ErrOpen || len(whats) != 0 || !empty(s) {
		t.Errorf("Settle(%v): %v, %v, %d", sound(), s, whats, e)
	}
}

// P14.5, P14.6: any Rcu, as it is told otherwise; what is settled is idle, and has run all that waited, of each CPU in order.
func TestSettlePlain(t *testing.T) {
	c := chance(5)
	open := 0
	for range 6000 {
		r := c.some()
		p := plainOf(r)
		l, want := p.settle()
		s, whats, e := rcu.Settle(r)
		if e != want || !slices.Equal(l, whats) {
			t.Fatalf("Settle(%v): %v, %v, %d, not %v, %v, %d", r, s, whats, e, p.rcu(), l, want)
		}
		if e != api.OK {
			if open++; e != api.ErrOpen || !empty(s) {
				t.Fatalf("Settle(%v): %v, %d", r, s, e)
			}
			continue
		}
		if !alike(s, p.rcu()) || !rcu.Idle(s) || rcu.Check(s) != api.OK || rcu.Waiting(s) != 0 || len(whats) != rcu.Waiting(r) || s.Grace.Done != r.Grace.Asked || s.Readers.Now != r.Readers.Now {
			t.Fatalf("Settle(%v): %v, %v, not %v", r, s, whats, p.rcu())
		}
	}
	if open < 1000 || open > 5000 {
		t.Errorf("%d of 6000 are in sections", open)
	}
}
