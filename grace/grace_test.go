package grace_test

import (
	"math"
	"testing"

	"afterglow/api"
	"afterglow/grace"
	"afterglow/reader"
)

// The examples of the chapter.
func TestExamples(t *testing.T) {
	r, g := mustNew(t, 2)
	_, a, l := mustPlay(t, r, g, asks(0), picks(0), picks(0), picks(1))
	if !alike(a, api.Grace{Done: 1, Asked: 1, Needs: needs(2)}) || len(l) != 1 || l[0] != 1 {
		t.Errorf("asked for, and picked: %v, %v", a, l)
	}
	r, b, _ := mustPlay(t, r, g, enters(1), asks(0), picks(0), picks(0), picks(1))
	if !alike(b, api.Grace{Asked: 1, On: true, Needs: needs(2, 1)}) {
		t.Errorf("while 1 is in a section: %v", b)
	}
	if _, c, _ := mustPlay(t, r, b, leaves(1), picks(1)); !grace.Over(c, 1) || grace.Over(b, 1) {
		t.Errorf("1 has left: %v", c)
	}
	if _, n, e := grace.Ask(b); n != 2 || e != api.OK {
		t.Errorf("Ask(%v): %d, %d", b, n, e)
	}
	if _, e := grace.Begin(b); e != api.ErrThere {
		t.Errorf("Begin(%v): %d", b, e)
	}
	if _, e := grace.Report(b, 2); e != api.ErrArg {
		t.Errorf("Report(%v, 2): %d", b, e)
	}
}

// P12.1: of one to eight CPUs, without periods; else ErrArg.
func TestNew(t *testing.T) {
	for cpus := 1; cpus <= 8; cpus++ {
		g, e := grace.New(cpus)
		if e != api.OK || !alike(g, api.Grace{Needs: make([]bool, cpus)}) {
			t.Errorf("New(%d): %v, %d", cpus, g, e)
		}
		scrub(g.Needs, other)
		if h, e := grace.New(cpus); e != api.OK || !alike(h, api.Grace{Needs: make([]bool, cpus)}) {
			t.Errorf("New(%d), behind a change of another one: %v, %d", cpus, h, e)
		}
	}
	for _, cpus := range append(edges(), 0, 9, 10, 64) {
		if g, e := grace.New(cpus); e != api.ErrArg || !empty(g) {
			t.Errorf("New(%d): %v, %d", cpus, g, e)
		}
	}
}

// P12.1: a grace may be, up to each edge.
func TestCheck(t *testing.T) {
	for _, g := range []api.Grace{
		sound(), still(),
		{Needs: needs(1)}, {Needs: needs(8)}, {Asked: 1, Needs: needs(1)}, {Asked: 1, Needs: needs(8)},
		{Asked: 1, On: true, Needs: needs(1, 0)}, {Asked: 2, On: true, Needs: needs(1, 0)}, {Asked: 1, On: true, Needs: needs(8, 7)}, {Asked: 2, On: true, Needs: needs(8, 0, 1, 2, 3, 4, 5, 6, 7)},
		{Done: most, Asked: most, Needs: needs(3)}, {Done: most - 1, Asked: most, Needs: needs(3)}, {Done: most - 1, Asked: most - 1, Needs: needs(3)},
		{Done: most - 1, Asked: most, On: true, Needs: needs(3, 1)}, {Done: most - 2, Asked: most, On: true, Needs: needs(3, 1)}, {Done: most - 2, Asked: most - 1, On: true, Needs: needs(3, 1)},
	} {
		if e := grace.Check(g); e != api.OK {
			t.Errorf("Check(%v): %d", g, e)
		}
	}
	for _, g := range noGraces() {
		if e := grace.Check(g); e != api.ErrGrace {
			t.Errorf("Check(%v): %d", g, e)
		}
	}
}

// P12.1: all graces of few CPUs whose numbers are small, or great, those that may be, and those that may not.
func TestCheckSmall(t *testing.T) {
	ask := func(g api.Grace) {
		many := 0
		for _, need := range g.Needs {
			if need {
				many++
			}
		}
		may := g.Done >= 0 && g.Asked <= most
		if g.On {
			may = may && many >= 1 && (g.Asked == g.Done+1 || g.Asked == g.Done+2)
		} else {
			may = may && many == 0 && (g.Asked == g.Done || g.Asked == g.Done+1)
		}
		if e := grace.Check(g); may != (e == api.OK) || !may != (e == api.ErrGrace) {
			t.Fatalf("Check(%v): %d", g, e)
		}
	}
	for _, first := range []int{0, 40, most, 1 << 31} {
		for done := first - 4; done <= first+4; done++ {
			for asked := first - 4; asked <= first+6; asked++ {
				for cpus := 1; cpus <= 4; cpus++ {
					for which := range 1 << cpus {
						l := make([]bool, cpus)
						for cpu := range l {
							l[cpu] = which>>cpu&1 == 1
						}
						ask(api.Grace{Done: done, Asked: asked, Needs: l})
						ask(api.Grace{Done: done, Asked: asked, On: true, Needs: l})
					}
				}
			}
		}
	}
}

// P12.1: of what may not be a call that tells an error tells ErrGrace, whatever else is wrong; the others tell nothing.
func TestNoGrace(t *testing.T) {
	for _, g := range noGraces() {
		if h, n, e := grace.Ask(g); e != api.ErrGrace || n != 0 || !empty(h) {
			t.Fatalf("Ask(%v): %v, %d, %d", g, h, n, e)
		}
		if h, e := grace.Begin(g); e != api.ErrGrace || !empty(h) {
			t.Fatalf("Begin(%v): %v, %d", g, h, e)
		}
		for _, n := range append(edges(), 0, 1, 2, 3, 5, 8) {
			if h, e := grace.Report(g, n); e != api.ErrGrace || !empty(h) {
				t.Fatalf("Report(%v, %d): %v, %d", g, n, h, e)
			}
			for _, quiet := range []bool{false, true} {
				if h, e := grace.Pick(g, n, quiet); e != api.ErrGrace || !empty(h) {
					t.Fatalf("Pick(%v, %d, %v): %v, %d", g, n, quiet, h, e)
				}
			}
			if grace.Over(g, n) {
				t.Fatalf("Over(%v, %d)", g, n)
			}
		}
		for cpus := 1; cpus <= 8; cpus++ {
			r, _ := mustNew(t, cpus)
			for _, l := range [][]api.Tick{nil, {asks(0)}, {picks(9)}, {{}}, {leaves(0)}} {
				if s, h, numbers, e := grace.Play(r, g, l...); e != api.ErrGrace || !bare(s, h, numbers) {
					t.Fatalf("Play(%v, %v, %v): %v, %v, %v, %d", r, g, l, s, h, numbers, e)
				}
			}
		}
	}
}

// P12.1: Same tells apart whatever part is another one, also of those that may not be.
func TestSame(t *testing.T) {
	l := []api.Grace{
		{}, {Done: 1}, {Asked: 1}, {On: true}, {Needs: []bool{false}}, {Needs: []bool{true}}, {Needs: []bool{false, false}}, {Needs: needs(9)}, {Done: 1, Asked: 1},
		{Done: math.MinInt, Asked: math.MaxInt, On: true}, {Done: math.MaxInt, Asked: math.MinInt, On: true},
		sound(), still(),
		changed(func(g *api.Grace) { g.Done = 6 }), changed(func(g *api.Grace) { g.Asked = 6 }), changed(func(g *api.Grace) { g.On = false }),
		changed(func(g *api.Grace) { g.Done, g.Asked = 7, 5 }), changed(func(g *api.Grace) { g.Done, g.Asked = 6, 8 }),
		changed(func(g *api.Grace) { g.Needs[0] = false }), changed(func(g *api.Grace) { g.Needs[1] = true }), changed(func(g *api.Grace) { g.Needs[2] = false }),
		changed(func(g *api.Grace) { g.Needs = g.Needs[:2] }), changed(func(g *api.Grace) { g.Needs = append(g.Needs, false) }), changed(func(g *api.Grace) { g.Needs = nil }),
	}
	for i, a := range l {
		for j, b := range l {
			if same := grace.Same(a, told(b)); same != (i == j) {
				t.Errorf("Same(%v, %v): %v", a, b, same)
			}
		}
	}
	if !grace.Same(api.Grace{}, api.Grace{Needs: []bool{}}) || !grace.Same(api.Grace{Needs: []bool{}}, api.Grace{}) {
		t.Errorf("nil and empty rows are told apart")
	}
	a, b := sound(), sound()
	a.Needs = roomy(a.Needs, true)
	if !grace.Same(a, b) || !grace.Same(b, a) {
		t.Errorf("Same looks behind a row's end")
	}
}

// P12.1, P12.2: what is handed in stays as it is.
func TestAskedStays(t *testing.T) {
	for _, g := range append(noGraces(), sound(), still()) {
		h := told(g)
		h.Needs = roomy(h.Needs, true)
		all := whole(h.Needs)
		grace.Check(h)
		grace.Same(h, h)
		grace.Over(h, 1)
		if !alike(h, g) || !alike(api.Grace{Needs: all}, api.Grace{Needs: whole(h.Needs)}) {
			t.Fatalf("%v was asked, and is %v", g, h)
		}
	}
}

// P12.5: readers that may not be go ahead of a grace that may not be, of one of another number of CPUs, and of whatever ticks.
func TestNoReaders(t *testing.T) {
	for _, r := range []api.Readers{
		{}, {Now: -1, Nest: []int{0}, Opened: []int{0}}, {Now: 1, Nest: []int{1}, Opened: []int{0}}, {Nest: []int{0, 0, 0}, Opened: []int{0, 0}}, {Nest: make([]int, 9), Opened: make([]int, 9)},
	} {
		for _, g := range append(noGraces(), sound(), still(), api.Grace{Needs: needs(1)}) {
			for _, l := range [][]api.Tick{nil, {asks(0)}, {enters(0), picks(7)}, {{}}} {
				if s, h, numbers, e := grace.Play(r, g, l...); e != api.ErrReaders || reader.Check(r) != e || !bare(s, h, numbers) {
					t.Fatalf("Play(%v, %v, %v): %v, %v, %v, %d", r, g, l, s, h, numbers, e)
				}
			}
		}
	}
}
