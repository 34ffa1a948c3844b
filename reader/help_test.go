package reader_test

import (
	"math"
	"slices"
	"testing"

	"afterglow/api"
	"afterglow/reader"
)

// chance follows from a short rule, and is the same each time.
type chance uint64

func (c *chance) below(n int) int {
	*c = *c*6364136223846793005 + 1442695040888963407
	return int(uint64(*c>>33) % uint64(n))
}

// plain is readers told otherwise: of each CPU the steps with which it came into the sections that it is in, the outermost one first.
type plain struct {
	now  int
	open [][]int
}

// plainNew is one without steps.
func plainNew(cpus int) *plain {
	return &plain{open: make([][]int, cpus)}
}

// copy is p in memory of its own.
func (p *plain) copy() *plain {
	q := &plain{p.now, slices.Clone(p.open)}
	for cpu, l := range p.open {
		q.open[cpu] = slices.Clone(l)
	}
	return q
}

// step has a CPU enter a section, or leave one.
func (p *plain) step(o api.Reading) api.Errno {
	if o.Cpu < 0 || o.Cpu >= len(p.open) {
		return api.ErrArg
	}
	deep := len(p.open[o.Cpu])
	switch {
	case p.now == 2147483647, o.Enter && deep == 8:
		return api.ErrFull
	case !o.Enter && deep == 0:
		return api.ErrNone
	}
	p.now++
	if o.Enter {
		p.open[o.Cpu] = append(p.open[o.Cpu], p.now)
	} else {
		p.open[o.Cpu] = p.open[o.Cpu][:deep-1]
	}
	return api.OK
}

// passed says whether no CPU is in a section since a step, or one ahead of it.
func (p *plain) passed(step int) bool {
	for _, l := range p.open {
		if len(l) > 0 && l[0] <= step {
			return false
		}
	}
	return step >= 0 && step <= p.now
}

// readers is p as readers.
func (p *plain) readers() api.Readers {
	r := api.Readers{Now: p.now}
	for _, l := range p.open {
		since := 0
		if len(l) > 0 {
			since = l[0]
		}
		r.Nest, r.Opened = append(r.Nest, len(l)), append(r.Opened, since)
	}
	return r
}

// somePlain is any one of at most eight CPUs, behind any steps.
func (c *chance) somePlain(most int) *plain {
	p := plainNew(1 + c.below(8))
	for range c.below(most + 1) {
		p.step(c.reading(len(p.open)))
	}
	return p
}

// reading is any step of a CPU.
func (c *chance) reading(cpus int) api.Reading {
	return api.Reading{Cpu: c.below(cpus), Enter: c.below(5) < 3}
}

// enter and leave are steps of a CPU.
func enter(cpu int) api.Reading { return api.Reading{Cpu: cpu, Enter: true} }
func leave(cpu int) api.Reading { return api.Reading{Cpu: cpu} }

// told is r in memory of its own.
func told(r api.Readers) api.Readers {
	r.Nest, r.Opened = slices.Clone(r.Nest), slices.Clone(r.Opened)
	return r
}

// alike says whether two readers are one.
func alike(a, b api.Readers) bool {
	return a.Now == b.Now && slices.Equal(a.Nest, b.Nest) && slices.Equal(a.Opened, b.Opened)
}

// empty says whether r is the zero value.
func empty(r api.Readers) bool {
	return r.Now == 0 && len(r.Nest) == 0 && len(r.Opened) == 0
}

// edges are numbers that are none of a CPU, or of a step of few.
func edges() []int {
	return []int{math.MinInt, math.MinInt + 1, -1 << 60, -1 << 32, -1 << 31, -8, -2, -1, 1 << 31, 1<<31 + 1, 1 << 32, 1<<32 + 1, 1 << 60, math.MaxInt - 1, math.MaxInt}
}

// noCpus are numbers of no CPU of so many.
func noCpus(cpus int) []int { return append(edges(), cpus, cpus+1, 8, 9, 16) }

// sound is three CPUs, one of them quiet, behind nine steps.
func sound() api.Readers {
	return api.Readers{Now: 9, Nest: []int{2, 0, 1}, Opened: []int{7, 0, 3}}
}

// changed is sound, but for something.
func changed(how func(*api.Readers)) api.Readers {
	r := sound()
	how(&r)
	return r
}

// noReaders are some that may not be, of each cause.
func noReaders() []api.Readers {
	l := []api.Readers{
		{}, {Now: 1}, {Nest: []int{}, Opened: []int{}}, {Now: 5, Nest: []int{1}}, {Now: 5, Opened: []int{1}},
		{Nest: []int{0}}, {Opened: []int{0}}, {Nest: []int{0, 0}, Opened: []int{0}}, {Nest: []int{0}, Opened: []int{0, 0}},
		{Nest: make([]int, 9), Opened: make([]int, 9)}, {Nest: make([]int, 8), Opened: make([]int, 9)}, {Nest: make([]int, 9), Opened: make([]int, 8)},
		{Nest: make([]int, 100000), Opened: make([]int, 100000)}, {Nest: make([]int, 3), Opened: make([]int, 100000)}, {Nest: make([]int, 100000), Opened: make([]int, 3)},
		{Nest: []int{1}, Opened: []int{0}}, {Nest: []int{0}, Opened: []int{1}}, {Nest: []int{1}, Opened: []int{1}}, {Now: 1, Nest: []int{1, 1}, Opened: []int{1, 1}},
		{Now: 9, Nest: []int{1, 2, 3, 4, 5, 6, 7, 8}, Opened: []int{2, 3, 4, 5, 6, 7, 8, 2}},
	}
	for _, now := range edges() {
		l = append(l, api.Readers{Now: now, Nest: []int{0}, Opened: []int{0}}, changed(func(r *api.Readers) { r.Now = now }))
	}
	for _, nest := range append(edges(), 0, 9, 10, 64) {
		l = append(l, changed(func(r *api.Readers) { r.Nest[0] = nest }), changed(func(r *api.Readers) { r.Nest[2] = nest }))
		if nest != 0 {
			l = append(l, changed(func(r *api.Readers) { r.Nest[1] = nest }))
		}
	}
	for _, opened := range append(edges(), 0, 10, 11) {
		l = append(l, changed(func(r *api.Readers) { r.Opened[0] = opened }), changed(func(r *api.Readers) { r.Opened[2] = opened }))
		if opened != 0 {
			l = append(l, changed(func(r *api.Readers) { r.Opened[1] = opened }))
		}
	}
	return append(l,
		changed(func(r *api.Readers) { r.Opened[0] = 3 }),
		changed(func(r *api.Readers) { r.Opened[2] = 7 }),
		changed(func(r *api.Readers) { r.Opened[1] = 5 }),
		changed(func(r *api.Readers) { r.Nest[1] = 1 }),
		changed(func(r *api.Readers) { r.Nest[1], r.Opened[1] = 1, 3 }),
		changed(func(r *api.Readers) { r.Nest = r.Nest[:2] }),
		changed(func(r *api.Readers) { r.Opened = r.Opened[:2] }),
		changed(func(r *api.Readers) { r.Now = 6 }),
	)
}

// mustNew is readers without steps.
func mustNew(t *testing.T, cpus int) api.Readers {
	t.Helper()
	r, e := reader.New(cpus)
	if e != api.OK {
		t.Fatalf("New(%d): %d", cpus, e)
	}
	return r
}

// mustRun is r behind steps that have no error.
func mustRun(t *testing.T, r api.Readers, l ...api.Reading) api.Readers {
	t.Helper()
	q, n, e := reader.Run(r, l...)
	if e != api.OK || n != len(l) {
		t.Fatalf("Run(%v, %v): %v, %d, %d", r, l, q, n, e)
	}
	return q
}

// roomy is l with room behind its end, and something there.
func roomy(l []int) []int {
	return append(slices.Clone(l), slices.Repeat([]int{55}, 20)...)[:len(l)]
}

// whole is a copy of l with the room behind it.
func whole(l []int) []int {
	return slices.Clone(l[:cap(l)])
}

// scrub writes over all of l, the room behind it, too.
func scrub(l []int, with int) {
	for i := range l[:cap(l)] {
		l[:cap(l)][i] = with
	}
}
