package rcu_test

import (
	"math"
	"slices"
	"testing"

	"afterglow/api"
	"afterglow/rcu"
)

// most is the number of the last period that can be asked for; late is the number of the last step with which a section is entered, or left.
const (
	most = 2147483645
	late = 2147483647
)

// chance follows from a short rule, and is the same each time.
type chance uint64

func (c *chance) below(n int) int {
	*c = *c*6364136223846793005 + 1442695040888963407
	return int(uint64(*c>>33) % uint64(n))
}

// period is one that was asked for: whether it began, who was quiet since, and whether it is over.
type period struct {
	began, over bool
	quiet       map[int]int
}

// waits is something that waits for a period that was asked for, or, if that is nil, for one that was over at first, of that number.
type waits struct {
	what   uint64
	number uint64
	on     *period
}

// plain is an Rcu told otherwise: of each CPU the steps with which it came into the sections that it is in, the outermost one first, and what waits; how many steps were made; how many periods were over at first, and of each one behind these what became of it.
type plain struct {
	in         [][]int
	rows       [][]waits
	now, first int
	list       []*period
}

// plainOf is r told otherwise.
func plainOf(r api.Rcu) *plain {
	p := &plain{now: r.Readers.Now, first: r.Grace.Done}
	for number := r.Grace.Done + 1; number <= r.Grace.Asked; number++ {
		one := &period{quiet: map[int]int{}}
		if number == r.Grace.Done+1 && r.Grace.On {
			one.began = true
			for cpu, need := range r.Grace.Needs {
				if !need {
					one.quiet[cpu]++
				}
			}
		}
		p.list = append(p.list, one)
	}
	for cpu, q := range r.Queues {
		var in []int
		for range r.Readers.Nest[cpu] {
			in = append(in, r.Readers.Opened[cpu])
		}
		p.in = append(p.in, in)
		var row []waits
		for _, one := range q.List {
			w := waits{what: one.What, number: one.Period}
			if one.Period > uint64(p.first) {
				w.on = p.list[one.Period-uint64(p.first)-1]
			}
			row = append(row, w)
		}
		p.rows = append(p.rows, row)
	}
	return p
}

// fresh is the place of the first period that has not begun; of none behind all.
func (p *plain) fresh() int {
	return len(p.list) - len(slices.DeleteFunc(slices.Clone(p.list), func(one *period) bool { return one.began }))
}

// on is the period that is on, or nil.
func (p *plain) on() *period {
	for _, one := range p.list {
		if one.began && !one.over {
			return one
		}
	}
	return nil
}

// read has a CPU enter a section, or leave one.
func (p *plain) read(cpu int, enter bool) api.Errno {
	in := p.in[cpu]
	switch {
	case p.now == late || enter && len(in) == 8:
		return api.ErrFull
	case !enter && len(in) == 0:
		return api.ErrNone
	}
	p.now++
	if enter {
		p.in[cpu] = append(slices.Clone(in), p.now)
	} else {
		p.in[cpu] = in[:len(in)-1]
	}
	return api.OK
}

// call queues something.
func (p *plain) call(cpu int, what uint64) api.Errno {
	at := p.fresh()
	number := p.first + at + 1
	if len(p.rows[cpu]) == 16 || number > most {
		return api.ErrFull
	}
	if at == len(p.list) {
		p.list = append(p.list, &period{quiet: map[int]int{}})
	}
	p.rows[cpu] = append(p.rows[cpu], waits{what, uint64(number), p.list[at]})
	return api.OK
}

// pick has a CPU do what it can do for a period.
func (p *plain) pick(cpu int) {
	one, at := p.on(), p.fresh()
	switch {
	case one == nil && at < len(p.list):
		p.list[at].began = true
	case one != nil && len(p.in[cpu]) == 0:
		one.quiet[cpu]++
		one.over = len(one.quiet) == len(p.in)
	}
}

// done says whether the first one of a CPU is done.
func (p *plain) done(cpu int) bool {
	row := p.rows[cpu]
	return len(row) > 0 && (row[0].on == nil || row[0].on.over)
}

// step is what a CPU does.
func (p *plain) step(o api.RcOp) (uint64, api.Errno) {
	if o.Kind < 1 || o.Kind > 5 {
		return 0, api.ErrOpRc
	}
	if o.Cpu < 0 || o.Cpu >= len(p.in) {
		return 0, api.ErrArg
	}
	switch o.Kind {
	case 1, 2:
		return 0, p.read(o.Cpu, o.Kind == 1)
	case 3:
		return 0, p.call(o.Cpu, o.What)
	case 4:
		p.pick(o.Cpu)
		return 0, api.OK
	}
	if !p.done(o.Cpu) {
		return 0, api.ErrNone
	}
	what := p.rows[o.Cpu][0].what
	p.rows[o.Cpu] = p.rows[o.Cpu][1:]
	return what, api.OK
}

// open says whether a CPU is in a section.
func (p *plain) open() bool {
	for _, in := range p.in {
		if len(in) > 0 {
			return true
		}
	}
	return false
}

// waiting is how many callbacks wait.
func (p *plain) waiting() int {
	many := 0
	for _, row := range p.rows {
		many += len(row)
	}
	return many
}

// idle says whether nothing is left to do.
func (p *plain) idle() bool {
	return !p.open() && p.waiting() == 0 && p.on() == nil && p.fresh() == len(p.list)
}

// settle settles it, in rounds, and tells what was run.
func (p *plain) settle() ([]uint64, api.Errno) {
	if p.open() {
		return nil, api.ErrOpen
	}
	var l []uint64
	for !p.idle() {
		for cpu := range p.in {
			p.pick(cpu)
			for p.done(cpu) {
				what, _ := p.step(runs(cpu))
				l = append(l, what)
			}
		}
	}
	return l, api.OK
}

// rcu is p as an Rcu.
func (p *plain) rcu() api.Rcu {
	cpus := len(p.in)
	r := api.Rcu{
		Readers: api.Readers{Now: p.now, Nest: make([]int, cpus), Opened: make([]int, cpus)},
		Grace:   api.Grace{Done: p.first, Asked: p.first + len(p.list), Needs: make([]bool, cpus)},
		Queues:  make([]api.Queue, cpus),
	}
	for _, one := range p.list {
		if one.over {
			r.Grace.Done++
		} else if one.began {
			r.Grace.On = true
			for cpu := range cpus {
				r.Grace.Needs[cpu] = one.quiet[cpu] == 0
			}
		}
	}
	for cpu := range cpus {
		if in := p.in[cpu]; len(in) > 0 {
			r.Readers.Nest[cpu], r.Readers.Opened[cpu] = len(in), in[0]
		}
		r.Queues[cpu].Over = uint64(r.Grace.Done)
		for _, one := range p.rows[cpu] {
			r.Queues[cpu].List = append(r.Queues[cpu].List, api.Callback{Period: one.number, What: one.what})
		}
	}
	return r
}

// someGrace is any grace: of few periods, or of as many as can be.
func (c *chance) someGrace(cpus int) api.Grace {
	g := api.Grace{Done: []int{0, 1, 2, 40, most - 2, most - 1, most}[c.below(7)], On: c.below(2) == 0, Needs: make([]bool, cpus)}
	g.On = g.On && g.Done < most
	g.Asked = min(most, g.Done+c.below(2))
	if g.On {
		g.Asked = min(most, g.Done+1+c.below(2))
		for cpu := range cpus {
			g.Needs[cpu] = c.below(2) == 0
		}
		g.Needs[c.below(cpus)] = true
	}
	return g
}

// someReaders are any readers, at times all of them quiet, or with no step left.
func (c *chance) someReaders(cpus int) api.Readers {
	r := api.Readers{Now: 20 + c.below(9), Nest: make([]int, cpus), Opened: make([]int, cpus)}
	if c.below(8) == 0 {
		r.Now = late - c.below(3)
	}
	if c.below(3) == 0 {
		return r
	}
	for cpu := range cpus {
		if c.below(2) == 0 {
			r.Nest[cpu], r.Opened[cpu] = 1+c.below(8), 1+cpu+8*c.below(2)
		}
	}
	return r
}

// some is any Rcu, whether or not it can come of a new one.
func (c *chance) some() api.Rcu {
	cpus := 1 + c.below(8)
	r := api.Rcu{Readers: c.someReaders(cpus), Grace: c.someGrace(cpus)}
	for range cpus {
		q := api.Queue{Over: uint64(r.Grace.Done)}
		for range c.below(17) {
			back := min(r.Grace.Asked, c.below(5))
			q.List = append(q.List, api.Callback{Period: uint64(r.Grace.Asked - back), What: uint64(c.below(20))})
		}
		slices.SortFunc(q.List, func(a, b api.Callback) int { return int(a.Period) - int(b.Period) })
		if c.below(4) == 0 {
			q.List = nil
		}
		r.Queues = append(r.Queues, q)
	}
	return r
}

// op is something that a CPU does, seldom of no kind, or of no CPU.
func (c *chance) op(cpus int) api.RcOp {
	o := api.RcOp{Kind: 1 + c.below(5), Cpu: c.below(cpus), What: uint64(c.below(1000))}
	if c.below(2) == 0 {
		o.Kind = 4
	}
	switch c.below(100) {
	case 0:
		o.Kind = c.below(9) - 2
	case 1:
		o.Cpu = c.below(13) - 2
	}
	return o
}

// what CPUs do.
func enters(cpu int) api.RcOp             { return api.RcOp{Kind: 1, Cpu: cpu} }
func leaves(cpu int) api.RcOp             { return api.RcOp{Kind: 2, Cpu: cpu} }
func calls(cpu int, what uint64) api.RcOp { return api.RcOp{Kind: 3, Cpu: cpu, What: what} }
func picks(cpu int) api.RcOp              { return api.RcOp{Kind: 4, Cpu: cpu} }
func runs(cpu int) api.RcOp               { return api.RcOp{Kind: 5, Cpu: cpu} }

// row is callbacks of these periods; what they are is from, and those behind that.
func row(over uint64, from uint64, periods ...uint64) api.Queue {
	q := api.Queue{Over: over}
	for i, period := range periods {
		q.List = append(q.List, api.Callback{Period: period, What: from + uint64(i)})
	}
	return q
}

// level is callbacks of one period, so many.
func level(over, period uint64, many int) api.Queue {
	return row(over, 1, slices.Repeat([]uint64{period}, many)...)
}

// sound is three CPUs, two of them in sections, and one of these needed for the period 6; 7 is asked for; there wait five callbacks, two of which are done.
func sound() api.Rcu {
	return api.Rcu{
		Readers: api.Readers{Now: 9, Nest: []int{2, 0, 1}, Opened: []int{7, 0, 3}},
		Grace:   api.Grace{Done: 5, Asked: 7, On: true, Needs: []bool{false, true, true}},
		Queues:  []api.Queue{row(5, 10, 4, 5, 6), row(5, 20), row(5, 30, 6, 7)},
	}
}

// still is three CPUs that are idle.
func still() api.Rcu {
	return api.Rcu{
		Readers: api.Readers{Now: 9, Nest: make([]int, 3), Opened: make([]int, 3)},
		Grace:   api.Grace{Done: 5, Asked: 5, Needs: make([]bool, 3)},
		Queues:  []api.Queue{row(5, 0), row(5, 0), row(5, 0)},
	}
}

// changed is sound, but for something.
func changed(how func(*api.Rcu)) api.Rcu {
	r := sound()
	how(&r)
	return r
}

// told is r in memory of its own.
func told(r api.Rcu) api.Rcu {
	r.Readers.Nest, r.Readers.Opened, r.Grace.Needs = slices.Clone(r.Readers.Nest), slices.Clone(r.Readers.Opened), slices.Clone(r.Grace.Needs)
	r.Queues = slices.Clone(r.Queues)
	for i, q := range r.Queues {
		r.Queues[i].List = slices.Clone(q.List)
	}
	return r
}

// alike says whether two are one.
func alike(a, b api.Rcu) bool {
	one := func(a, b api.Queue) bool { return a.Over == b.Over && slices.Equal(a.List, b.List) }
	return a.Readers.Now == b.Readers.Now && slices.Equal(a.Readers.Nest, b.Readers.Nest) && slices.Equal(a.Readers.Opened, b.Readers.Opened) &&
		a.Grace.Done == b.Grace.Done && a.Grace.Asked == b.Grace.Asked && a.Grace.On == b.Grace.On && slices.Equal(a.Grace.Needs, b.Grace.Needs) &&
		slices.EqualFunc(a.Queues, b.Queues, one)
}

// empty says whether r is the zero value.
func empty(r api.Rcu) bool { return alike(r, api.Rcu{}) }

// edges are numbers that are none of a CPU, nor of a kind.
func edges() []int {
	return []int{math.MinInt, math.MinInt + 1, -1 << 60, -1 << 32, -1<<32 + 1, -1 << 31, -8, -2, -1, 255, 256, 257, 1 << 16, 1<<16 + 1, 1 << 31, 1 << 32, 1<<32 + 1, 1 << 60, math.MaxInt - 1, math.MaxInt}
}

// noCpus are numbers of no CPU of so many; noKinds those of no kind.
func noCpus(cpus int) []int { return append(edges(), cpus, cpus+1, 8, 9, 16) }
func noKinds() []int        { return append(edges(), 0, 6, 7, 64) }

// noRcus are some that may not be, of each cause.
func noRcus() []api.Rcu {
	l := []api.Rcu{
		{}, {Queues: []api.Queue{}}, {Queues: make([]api.Queue, 1)}, {Readers: still().Readers}, {Grace: still().Grace}, {Readers: still().Readers, Grace: still().Grace}, {Readers: still().Readers, Queues: still().Queues}, {Grace: still().Grace, Queues: still().Queues},
		{Readers: api.Readers{Nest: make([]int, 9), Opened: make([]int, 9)}, Grace: api.Grace{Needs: make([]bool, 9)}, Queues: make([]api.Queue, 9)},
	}
	for _, how := range []func(*api.Rcu){
		func(r *api.Rcu) { r.Readers.Now = 6 },
		func(r *api.Rcu) { r.Readers.Now = late + 1 },
		func(r *api.Rcu) { r.Readers.Nest[0] = 9 },
		func(r *api.Rcu) { r.Readers.Nest[1] = 1 },
		func(r *api.Rcu) { r.Readers.Opened[0] = 3 },
		func(r *api.Rcu) { r.Readers.Nest = r.Readers.Nest[:2] },
		func(r *api.Rcu) { r.Readers = api.Readers{} },
		func(r *api.Rcu) { r.Grace.On = false },
		func(r *api.Rcu) { r.Grace.Needs = make([]bool, 3) },
		func(r *api.Rcu) { r.Grace.Asked = 8 },
		func(r *api.Rcu) { r.Grace = api.Grace{} },
		func(r *api.Rcu) { r.Grace.Done = -5 },
		func(r *api.Rcu) { r.Readers.Nest, r.Readers.Opened = []int{2, 0}, []int{7, 0} },
		func(r *api.Rcu) { r.Readers.Nest, r.Readers.Opened = []int{2, 0, 1, 0}, []int{7, 0, 3, 0} },
		func(r *api.Rcu) { r.Grace.Needs = []bool{false, true} },
		func(r *api.Rcu) { r.Grace.Needs = []bool{false, true, true, true} },
		func(r *api.Rcu) { r.Queues = nil },
		func(r *api.Rcu) { r.Queues = r.Queues[:2] },
		func(r *api.Rcu) { r.Queues = append(r.Queues, row(5, 0)) },
		func(r *api.Rcu) { r.Readers.Nest, r.Readers.Opened, r.Queues = []int{2, 0}, []int{7, 0}, r.Queues[:2] },
		func(r *api.Rcu) { r.Grace.Needs, r.Queues = r.Grace.Needs[:2], r.Queues[:2] },
		func(r *api.Rcu) {
			r.Readers.Nest, r.Readers.Opened, r.Grace.Needs = []int{2, 0}, []int{7, 0}, []bool{false, true}
		},
		func(r *api.Rcu) {
			r.Grace.Done, r.Grace.Asked, r.Grace.On, r.Grace.Needs = 4, 5, false, make([]bool, 3)
		},
		func(r *api.Rcu) { r.Grace.Done, r.Grace.Asked = 6, 7 },
		func(r *api.Rcu) { r.Grace.Asked = 6 }, // somebody waits for 7
	} {
		l = append(l, changed(how))
	}
	for cpu := range 3 {
		for _, q := range []api.Queue{row(0, 0), row(4, 0), row(6, 0), row(5+1<<32, 0), row(math.MaxUint64-4, 0), row(1<<63+5, 0), row(4, 1, 4, 5, 6), row(6, 1, 6, 7), row(5, 1, 5, 4), row(5, 1, 8), row(5, 1, 7, 6), level(5, 5, 17), level(5, 5, 1000)} {
			l = append(l, changed(func(r *api.Rcu) { r.Queues[cpu] = q }))
		}
		for _, q := range []api.Queue{row(5, 1, 6), row(5, 1, 7), row(5, 1, 5, 6), level(5, 6, 16), row(4, 1), row(6, 1)} {
			r := still()
			r.Queues[cpu] = q
			l = append(l, r)
		}
		for _, q := range []api.Queue{row(5, 1, 7), row(5, 1, 5, 6, 7), row(5, 1, 8)} {
			for _, on := range []bool{false, true} {
				r := still()
				r.Grace.Asked, r.Grace.On, r.Grace.Needs[0], r.Queues[cpu] = 6, on, on, q
				l = append(l, r)
			}
		}
	}
	return l
}

// mustNew is one without callbacks.
func mustNew(t *testing.T, cpus int) api.Rcu {
	t.Helper()
	r, e := rcu.New(cpus)
	if e != api.OK {
		t.Fatalf("New(%d): %d", cpus, e)
	}
	return r
}

// mustRun is r behind what CPUs do without an error, and what was run.
func mustRun(t *testing.T, r api.Rcu, l ...api.RcOp) (api.Rcu, []uint64) {
	t.Helper()
	s, whats, e := rcu.Run(r, l...)
	if e != api.OK {
		t.Fatalf("Run(%v, %v): %v, %v, %d", r, l, s, whats, e)
	}
	return s, whats
}

// mustSettle is r, settled, and what was run.
func mustSettle(t *testing.T, r api.Rcu) (api.Rcu, []uint64) {
	t.Helper()
	s, whats, e := rcu.Settle(r)
	if e != api.OK {
		t.Fatalf("Settle(%v): %v, %v, %d", r, s, whats, e)
	}
	return s, whats
}
