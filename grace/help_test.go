package grace_test

import (
	"math"
	"slices"
	"testing"

	"afterglow/api"
	"afterglow/grace"
	"afterglow/reader"
)

// most is the number of the last period that can be asked for.
const most = 2147483645

// chance follows from a short rule, and is the same each time.
type chance uint64

func (c *chance) below(n int) int {
	*c = *c*6364136223846793005 + 1442695040888963407
	return int(uint64(*c>>33) % uint64(n))
}

// period is one that was asked for: whether it began, who was quiet since, and whether it is over.
type period struct {
	began, over bool
	quiet       map[int]int
}

// plain is grace told otherwise: how many CPUs, how many periods were over at first, and of each one behind these what became of it.
type plain struct {
	cpus, first int
	list        []*period
}

// at is the place of the first period that has not begun; of none behind all.
func (p *plain) at() int {
	for i, one := range p.list {
		if !one.began {
			return i
		}
	}
	return len(p.list)
}

// on is the period that is on, or nil.
func (p *plain) on() *period {
	for _, one := range p.list {
		if one.began && !one.over {
			return one
		}
	}
	return nil
}

// ask asks for a period, and says which one that is.
func (p *plain) ask() (int, api.Errno) {
	at := p.at()
	number := p.first + at + 1
	if number > most {
		return 0, api.ErrFull
	}
	if at == len(p.list) {
		p.list = append(p.list, &period{quiet: map[int]int{}})
	}
	return number, api.OK
}

// begin lets the next period begin.
func (p *plain) begin() api.Errno {
	if p.on() != nil {
		return api.ErrThere
	}
	at := p.at()
	if at == len(p.list) {
		return api.ErrNone
	}
	p.list[at].began = true
	return api.OK
}

// report says that a CPU is quiet.
func (p *plain) report(cpu int) api.Errno {
	if cpu < 0 || cpu >= p.cpus {
		return api.ErrArg
	}
	one := p.on()
	if one == nil {
		return api.ErrNone
	}
	one.quiet[cpu]++
	one.over = len(one.quiet) == p.cpus
	return api.OK
}

// pick has a CPU do what it can do.
func (p *plain) pick(cpu int, quiet bool) api.Errno {
	if cpu < 0 || cpu >= p.cpus {
		return api.ErrArg
	}
	if p.on() == nil {
		p.begin()
	} else if quiet {
		p.report(cpu)
	}
	return api.OK
}

// grace is p as a grace.
func (p *plain) grace() api.Grace {
	g := api.Grace{Done: p.first, Asked: p.first + len(p.list), Needs: make([]bool, p.cpus)}
	for _, one := range p.list {
		if one.over {
			g.Done++
		} else if one.began {
			g.On = true
			for cpu := range g.Needs {
				g.Needs[cpu] = one.quiet[cpu] == 0
			}
		}
	}
	return g
}

// step has something be done: of 0 that a period is asked for, of 1 that one begins, of 2 and 3 that a CPU reports, or is picked.
func (p *plain) step(kind, cpu int, quiet bool) api.Errno {
	switch kind {
	case 0:
		_, e := p.ask()
		return e
	case 1:
		return p.begin()
	case 2:
		return p.report(cpu)
	}
	return p.pick(cpu, quiet)
}

// somePlain is any one, of which few periods were asked for, and none at times can be asked for any more.
func (c *chance) somePlain() *plain {
	p := &plain{cpus: 1 + c.below(8)}
	switch c.below(3) {
	case 0:
		p.first = c.below(1000)
	case 1:
		p.first = most - c.below(4)
	}
	for range c.below(60) {
		p.step(c.below(4), c.below(p.cpus), c.below(4) > 0)
	}
	return p
}

// ticks.
func enters(cpu int) api.Tick { return api.Tick{Kind: 1, Cpu: cpu} }
func leaves(cpu int) api.Tick { return api.Tick{Kind: 2, Cpu: cpu} }
func asks(cpu int) api.Tick   { return api.Tick{Kind: 3, Cpu: cpu} }
func picks(cpu int) api.Tick  { return api.Tick{Kind: 4, Cpu: cpu} }

// needs is which CPUs are needed, of so many.
func needs(cpus int, who ...int) []bool {
	l := make([]bool, cpus)
	for _, cpu := range who {
		l[cpu] = true
	}
	return l
}

// told is g in memory of its own.
func told(g api.Grace) api.Grace {
	g.Needs = slices.Clone(g.Needs)
	return g
}

// alike says whether two graces are one.
func alike(a, b api.Grace) bool {
	return a.Done == b.Done && a.Asked == b.Asked && a.On == b.On && slices.Equal(a.Needs, b.Needs)
}

// empty says whether g is the zero value.
func empty(g api.Grace) bool {
	return g.Done == 0 && g.Asked == 0 && !g.On && len(g.Needs) == 0
}

// alikeReaders says whether two readers are one.
func alikeReaders(a, b api.Readers) bool {
	return a.Now == b.Now && slices.Equal(a.Nest, b.Nest) && slices.Equal(a.Opened, b.Opened)
}

// bare says whether a play tells nothing.
func bare(r api.Readers, g api.Grace, l []int) bool {
	return empty(g) && r.Now == 0 && len(r.Nest) == 0 && len(r.Opened) == 0 && len(l) == 0
}

// edges are numbers that are none of a CPU, or of a period of few.
func edges() []int {
	return []int{math.MinInt, math.MinInt + 1, -1 << 60, -1 << 32, -1 << 31, -8, -2, -1, most + 1, most + 2, 1 << 31, 1<<31 + 1, 1 << 32, 1<<32 + 1, 1 << 60, math.MaxInt - 2, math.MaxInt - 1, math.MaxInt}
}

// noCpus are numbers of no CPU of so many.
func noCpus(cpus int) []int {
	l := append(edges(), cpus, cpus+1, 8, 9, 16)
	return slices.DeleteFunc(l, func(cpu int) bool { return cpu >= 0 && cpu < cpus })
}

// sound is three CPUs, two of them needed for the period 6, and 7 asked for.
func sound() api.Grace {
	return api.Grace{Done: 5, Asked: 7, On: true, Needs: []bool{true, false, true}}
}

// still is three CPUs, no period being on, nor asked for.
func still() api.Grace {
	return api.Grace{Done: 5, Asked: 5, Needs: make([]bool, 3)}
}

// changed is sound, but for something.
func changed(how func(*api.Grace)) api.Grace {
	g := sound()
	how(&g)
	return g
}

// noGraces are some that may not be, of each cause.
func noGraces() []api.Grace {
	l := []api.Grace{
		{}, {On: true}, {Asked: 1}, {Done: 3, Asked: 3}, {Asked: 1, On: true}, {Needs: []bool{}}, {Asked: 1, On: true, Needs: []bool{}},
		{Needs: make([]bool, 9)}, {Needs: make([]bool, 64)}, {Needs: make([]bool, 100000)}, {Asked: 1, On: true, Needs: needs(9, 0)}, {Asked: 1, On: true, Needs: needs(9, 8)},
		{On: true, Needs: needs(2)}, {On: true, Needs: needs(2, 0)}, {Needs: needs(2, 1)}, {Asked: 1, Needs: needs(2, 0)}, {Asked: 1, Needs: needs(8, 7)},
		{Asked: 1, On: true, Needs: needs(2)}, {Asked: 2, On: true, Needs: needs(8)}, {Asked: 3, On: true, Needs: needs(2, 0)}, {Asked: 2, Needs: needs(2)}, {Asked: 3, Needs: needs(2)},
		{Done: 1, Needs: needs(2)}, {Done: 2, Asked: 1, Needs: needs(2)}, {Done: 2, Asked: 1, On: true, Needs: needs(2, 0)}, {Done: 2, Asked: 2, On: true, Needs: needs(2, 0)},
		{Done: -1, Asked: -1, Needs: needs(1)}, {Done: -1, Asked: 0, Needs: needs(1)}, {Done: -1, Asked: 0, On: true, Needs: needs(1, 0)}, {Done: -1, Asked: 1, On: true, Needs: needs(1, 0)},
		{Done: most, Asked: most + 1, Needs: needs(1)}, {Done: most + 1, Asked: most + 1, Needs: needs(1)}, {Done: most, Asked: most + 1, On: true, Needs: needs(1, 0)},
		{Done: most - 1, Asked: most + 1, On: true, Needs: needs(1, 0)}, {Done: most, Asked: most + 2, On: true, Needs: needs(1, 0)},
		{Done: math.MaxInt, Asked: math.MinInt, Needs: needs(1)}, {Done: math.MaxInt, Asked: math.MinInt, On: true, Needs: needs(1, 0)}, {Done: math.MinInt, Asked: math.MaxInt, On: true, Needs: needs(1, 0)},
		changed(func(g *api.Grace) { g.Done = 4 }), changed(func(g *api.Grace) { g.Done = 7 }), changed(func(g *api.Grace) { g.Asked = 5 }), changed(func(g *api.Grace) { g.Asked = 8 }),
		changed(func(g *api.Grace) { g.On = false }), changed(func(g *api.Grace) { g.Needs = needs(3) }), changed(func(g *api.Grace) { g.Needs = nil }),
	}
	for _, n := range edges() {
		l = append(l,
			api.Grace{Done: n, Asked: n, Needs: needs(1)},
			api.Grace{Done: n, Asked: 5, Needs: needs(1)},
			api.Grace{Done: 5, Asked: n, Needs: needs(1)},
			changed(func(g *api.Grace) { g.Done = n }),
			changed(func(g *api.Grace) { g.Asked = n }),
			changed(func(g *api.Grace) { g.Done, g.Asked = n-1, n }),
		)
	}
	return l
}

// mustNew is readers without steps, and a grace without periods.
func mustNew(t *testing.T, cpus int) (api.Readers, api.Grace) {
	t.Helper()
	r, e := reader.New(cpus)
	g, f := grace.New(cpus)
	if e != api.OK || f != api.OK {
		t.Fatalf("New(%d): %d, %d", cpus, e, f)
	}
	return r, g
}

// mustPlay is what comes of ticks that have no error.
func mustPlay(t *testing.T, r api.Readers, g api.Grace, l ...api.Tick) (api.Readers, api.Grace, []int) {
	t.Helper()
	s, h, numbers, e := grace.Play(r, g, l...)
	if e != api.OK {
		t.Fatalf("Play(%v, %v, %v): %v, %v, %v, %d", r, g, l, s, h, numbers, e)
	}
	return s, h, numbers
}

// roomy is l with room behind its end, and something there.
func roomy[T any](l []T, with T) []T {
	return append(slices.Clone(l), slices.Repeat([]T{with}, 20)...)[:len(l)]
}

// whole is a copy of l with the room behind it.
func whole[T any](l []T) []T {
	return slices.Clone(l[:cap(l)])
}

// scrub writes over all of l, the room behind it, too.
func scrub[T any](l []T, with func(T) T) {
	for i, one := range l[:cap(l)] {
		l[:cap(l)][i] = with(one)
	}
}

// other is what a flag is not.
func other(flag bool) bool { return !flag }
