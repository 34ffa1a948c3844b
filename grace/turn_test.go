package grace_test

import (
	"slices"
	"testing"

	"afterglow/api"
	"afterglow/grace"
)

// P12.2: the next period that has not begun: one ahead of Done, or two, if one is on; asked for again it is the same one.
func TestAsk(t *testing.T) {
	for _, c := range []struct {
		g, want api.Grace
		n       int
	}{
		{still(), api.Grace{Done: 5, Asked: 6, Needs: needs(3)}, 6},
		{api.Grace{Done: 5, Asked: 6, Needs: needs(3)}, api.Grace{Done: 5, Asked: 6, Needs: needs(3)}, 6},
		{sound(), sound(), 7},
		{changed(func(g *api.Grace) { g.Asked = 6 }), sound(), 7},
		{api.Grace{Needs: needs(1)}, api.Grace{Asked: 1, Needs: needs(1)}, 1},
		{api.Grace{Asked: 1, On: true, Needs: needs(8, 7)}, api.Grace{Asked: 2, On: true, Needs: needs(8, 7)}, 2},
		{api.Grace{Done: most - 1, Asked: most - 1, Needs: needs(2)}, api.Grace{Done: most - 1, Asked: most, Needs: needs(2)}, most},
		{api.Grace{Done: most - 1, Asked: most, Needs: needs(2)}, api.Grace{Done: most - 1, Asked: most, Needs: needs(2)}, most},
		{api.Grace{Done: most - 2, Asked: most - 1, On: true, Needs: needs(2, 1)}, api.Grace{Done: most - 2, Asked: most, On: true, Needs: needs(2, 1)}, most},
		{api.Grace{Done: most - 2, Asked: most, On: true, Needs: needs(2, 1)}, api.Grace{Done: most - 2, Asked: most, On: true, Needs: needs(2, 1)}, most},
	} {
		if g, n, e := grace.Ask(c.g); e != api.OK || n != c.n || !alike(g, c.want) {
			t.Errorf("Ask(%v): %v, %d, %d, not %v, %d", c.g, g, n, e, c.want, c.n)
		}
	}
	for _, g := range []api.Grace{
		{Done: most, Asked: most, Needs: needs(2)},
		{Done: most - 1, Asked: most, On: true, Needs: needs(2, 0)},
		{Done: most - 1, Asked: most, On: true, Needs: needs(8, 0, 1, 2, 3, 4, 5, 6, 7)},
	} {
		if h, n, e := grace.Ask(g); e != api.ErrFull || n != 0 || !empty(h) {
			t.Errorf("Ask(%v): %v, %d, %d", g, h, n, e)
		}
	}
}

// P12.2: from 1 on, up to Done.
func TestOver(t *testing.T) {
	great := api.Grace{Done: most, Asked: most, Needs: needs(2)}
	for _, c := range []struct {
		g      api.Grace
		period int
		want   bool
	}{
		{sound(), 1, true}, {sound(), 4, true}, {sound(), 5, true}, {sound(), 6, false}, {sound(), 7, false}, {sound(), 8, false}, {sound(), 0, false}, {sound(), -1, false}, {sound(), -5, false},
		{still(), 1, true}, {still(), 5, true}, {still(), 6, false}, {still(), 0, false},
		{api.Grace{Needs: needs(1)}, 0, false}, {api.Grace{Needs: needs(1)}, 1, false}, {api.Grace{Asked: 1, Needs: needs(1)}, 1, false}, {api.Grace{Asked: 1, On: true, Needs: needs(1, 0)}, 1, false},
		{great, 1, true}, {great, most, true}, {great, most + 1, false}, {great, 0, false},
	} {
		if got := grace.Over(c.g, c.period); got != c.want {
			t.Errorf("Over(%v, %d): %v", c.g, c.period, got)
		}
	}
	for _, period := range edges() {
		if grace.Over(sound(), period) || grace.Over(still(), period) || grace.Over(great, period) {
			t.Errorf("Over(.., %d)", period)
		}
	}
}

// P12.3: what is asked for begins, and all CPUs are needed; ErrThere, if one is on, whether or not another one is asked for; ErrNone, if none is asked for.
func TestBegin(t *testing.T) {
	for cpus := 1; cpus <= 8; cpus++ {
		for _, done := range []int{0, 1, 77, most - 1} {
			want := api.Grace{Done: done, Asked: done + 1, On: true, Needs: slices.Repeat([]bool{true}, cpus)}
			if g, e := grace.Begin(api.Grace{Done: done, Asked: done + 1, Needs: needs(cpus)}); e != api.OK || !alike(g, want) {
				t.Errorf("Begin of %d CPUs, %d being over: %v, %d", cpus, done, g, e)
			}
			if g, e := grace.Begin(want); e != api.ErrThere || !empty(g) {
				t.Errorf("Begin(%v): %v, %d", want, g, e)
			}
			if g, e := grace.Begin(api.Grace{Done: done, Asked: done, Needs: needs(cpus)}); e != api.ErrNone || !empty(g) {
				t.Errorf("Begin of %d CPUs, %d being over, and all that is asked for: %v, %d", cpus, done, g, e)
			}
		}
	}
	for _, g := range []api.Grace{sound(), changed(func(g *api.Grace) { g.Asked = 6 }), {Done: most - 2, Asked: most, On: true, Needs: needs(1, 0)}} {
		if h, e := grace.Begin(g); e != api.ErrThere || !empty(h) {
			t.Errorf("Begin(%v): %v, %d", g, h, e)
		}
	}
}

// P12.3: who reports is not needed any more, or as little as ahead; with the last one the period is over.
func TestReport(t *testing.T) {
	one := changed(func(g *api.Grace) { g.Needs[2] = false })
	for _, c := range []struct {
		g, want api.Grace
		cpu     int
	}{
		{sound(), changed(func(g *api.Grace) { g.Needs[0] = false }), 0},
		{sound(), changed(func(g *api.Grace) { g.Needs[2] = false }), 2},
		{sound(), sound(), 1},
		{one, api.Grace{Done: 6, Asked: 7, Needs: needs(3)}, 0},
		{one, one, 1},
		{one, one, 2},
		{changed(func(g *api.Grace) { g.Asked, g.Needs = 6, needs(3, 2) }), api.Grace{Done: 6, Asked: 6, Needs: needs(3)}, 2},
		{api.Grace{Asked: 1, On: true, Needs: needs(1, 0)}, api.Grace{Done: 1, Asked: 1, Needs: needs(1)}, 0},
		{api.Grace{Asked: 2, On: true, Needs: needs(8, 7)}, api.Grace{Done: 1, Asked: 2, Needs: needs(8)}, 7},
		{api.Grace{Asked: 2, On: true, Needs: needs(8, 0, 7)}, api.Grace{Asked: 2, On: true, Needs: needs(8, 0)}, 7},
		{api.Grace{Done: most - 1, Asked: most, On: true, Needs: needs(2, 1)}, api.Grace{Done: most, Asked: most, Needs: needs(2)}, 1},
	} {
		if g, e := grace.Report(c.g, c.cpu); e != api.OK || !alike(g, c.want) {
			t.Errorf("Report(%v, %d): %v, %d, not %v", c.g, c.cpu, g, e, c.want)
		}
	}
}

// P12.3: no such CPU goes ahead of no period that is on.
func TestReportErrors(t *testing.T) {
	for _, g := range []api.Grace{sound(), still(), {Asked: 1, Needs: needs(1)}, {Asked: 1, On: true, Needs: needs(7, 6)}, {Needs: needs(8)}, {Done: most, Asked: most, Needs: needs(2)}} {
		for _, cpu := range noCpus(len(g.Needs)) {
			if h, e := grace.Report(g, cpu); e != api.ErrArg || !empty(h) {
				t.Errorf("Report(%v, %d): %v, %d", g, cpu, h, e)
			}
		}
		for cpu := range g.Needs {
			if h, e := grace.Report(g, cpu); (e == api.OK) != g.On || (e == api.ErrNone) == g.On || e != api.OK && !empty(h) {
				t.Errorf("Report(%v, %d): %v, %d", g, cpu, h, e)
			}
		}
	}
}

// P12.4: who is picked reports, if one is on, and it is quiet; lets one begin, quiet or not, if none is on, and one is asked for; else does nothing.
func TestPick(t *testing.T) {
	asked := api.Grace{Done: 5, Asked: 6, Needs: needs(3)}
	begun := api.Grace{Done: 5, Asked: 6, On: true, Needs: needs(3, 0, 1, 2)}
	one := changed(func(g *api.Grace) { g.Needs[2] = false })
	for _, c := range []struct {
		g           api.Grace
		cpu         int
		quiet, busy api.Grace
	}{
		{still(), 0, still(), still()},
		{still(), 2, still(), still()},
		{asked, 0, begun, begun},
		{asked, 2, begun, begun},
		{begun, 1, changed(func(g *api.Grace) { g.Asked = 6 }), begun},
		{sound(), 0, changed(func(g *api.Grace) { g.Needs[0] = false }), sound()},
		{sound(), 1, sound(), sound()},
		{one, 0, api.Grace{Done: 6, Asked: 7, Needs: needs(3)}, one}, // the next one does not begin by the same pick
		{one, 2, one, one},
		{api.Grace{Done: most, Asked: most, Needs: needs(1)}, 0, api.Grace{Done: most, Asked: most, Needs: needs(1)}, api.Grace{Done: most, Asked: most, Needs: needs(1)}},
	} {
		if g, e := grace.Pick(c.g, c.cpu, true); e != api.OK || !alike(g, c.quiet) {
			t.Errorf("Pick(%v, %d, true): %v, %d, not %v", c.g, c.cpu, g, e, c.quiet)
		}
		if g, e := grace.Pick(c.g, c.cpu, false); e != api.OK || !alike(g, c.busy) {
			t.Errorf("Pick(%v, %d, false): %v, %d, not %v", c.g, c.cpu, g, e, c.busy)
		}
	}
	for _, g := range []api.Grace{sound(), still(), asked, one, {Needs: needs(8)}} {
		for _, cpu := range noCpus(len(g.Needs)) {
			for _, quiet := range []bool{false, true} {
				if h, e := grace.Pick(g, cpu, quiet); e != api.ErrArg || !empty(h) {
					t.Errorf("Pick(%v, %d, %v): %v, %d", g, cpu, quiet, h, e)
				}
			}
		}
	}
}

// P12.2 to P12.4: whatever is done, one behind the other, as it is told otherwise.
func TestPlain(t *testing.T) {
	var c chance
	for range 4000 {
		p := c.somePlain()
		g := p.grace()
		for range 20 {
			kind, cpu, quiet := c.below(4), c.below(p.cpus), c.below(3) > 0
			if c.below(20) == 0 {
				cpu = c.below(13) - 2
			}
			want, n := api.OK, 0
			if kind == 0 {
				n, want = p.ask()
			} else {
				want = p.step(kind, cpu, quiet)
			}
			h, m, e := done(g, kind, cpu, quiet)
			if e != want || m != n || e != api.OK && !empty(h) || e == api.OK && !alike(h, p.grace()) {
				t.Fatalf("%v, behind %d, %d, %v: %v, %d, %d, not %v, %d, %d", g, kind, cpu, quiet, h, m, e, p.grace(), n, want)
			}
			if e == api.OK {
				g = h
			}
			for period := p.first - 2; period < p.first+len(p.list)+3; period++ {
				at := period - p.first - 1
				if want := period > 0 && (at < 0 || at < len(p.list) && p.list[at].over); grace.Over(g, period) != want {
					t.Fatalf("Over(%v, %d): not %v", g, period, want)
				}
			}
		}
	}
}

// done is g behind something: see plain's step.
func done(g api.Grace, kind, cpu int, quiet bool) (api.Grace, int, api.Errno) {
	var e api.Errno
	switch kind {
	case 0:
		return grace.Ask(g)
	case 1:
		g, e = grace.Begin(g)
	case 2:
		g, e = grace.Report(g, cpu)
	default:
		g, e = grace.Pick(g, cpu, quiet)
	}
	return g, 0, e
}

// keepsApart fails unless a grace that is handed in stays as it is, the room behind its row, too, and shares no memory with the one that is answered.
func keepsApart(t *testing.T, g api.Grace, does func(api.Grace) api.Grace) {
	t.Helper()
	for _, behind := range []bool{false, true} {
		in := api.Grace{Done: g.Done, Asked: g.Asked, On: g.On, Needs: roomy(g.Needs, behind)}
		all := whole(in.Needs)
		out := does(in)
		if !alike(in, g) || !slices.Equal(whole(in.Needs), all) {
			t.Fatalf("%v was handed in, and is %v", g, in)
		}
		want := told(out)
		scrub(in.Needs, other)
		if !alike(out, want) {
			t.Fatalf("%v is kept: %v, not %v", g, out, want)
		}
		all = whole(in.Needs)
		scrub(out.Needs, other)
		if !slices.Equal(whole(in.Needs), all) {
			t.Fatalf("what came of %v is changed in it", g)
		}
	}
}

// P12.2 to P12.5: what is handed in stays as it is, and is not kept.
func TestApart(t *testing.T) {
	var c chance
	for range 300 {
		p := c.somePlain()
		kind, cpu := c.below(4), c.below(p.cpus)
		for _, quiet := range []bool{false, true} {
			keepsApart(t, p.grace(), func(g api.Grace) api.Grace {
				h, _, _ := done(g, kind, cpu, quiet)
				return h
			})
		}
		r, _ := mustNew(t, p.cpus)
		for _, l := range [][]api.Tick{nil, {picks(cpu)}, {asks(cpu), picks(cpu)}, {enters(cpu), picks(cpu), picks(0), asks(9)}} {
			keepsApart(t, p.grace(), func(g api.Grace) api.Grace {
				_, h, _, _ := grace.Play(r, g, l...)
				return h
			})
		}
	}
}
