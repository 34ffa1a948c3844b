package rcu_test

import (
	"testing"

	"afterglow/api"
	"afterglow/rcu"
)

// Of how many CPUs, and how many callbacks of each, at most all that can be is gone through.
const (
	fewCpus = 3
	fewRows = 3
)

// waited is a callback: how many periods ahead it is still, and how many sections of each CPU are open still that were open when it was queued.
type waited struct {
	ahead int
	owed  [fewCpus]int
}

// known is what can be, but for how many steps were made, periods are over, and callbacks were queued: what comes of it hangs on nothing else.
type known struct {
	nest  [fewCpus]int
	ahead int
	on    bool
	needs [fewCpus]bool
	rows  [fewCpus][fewRows]waited
	many  [fewCpus]int
}

// place is one that can be; and of each CPU how many callbacks were queued, and run: what they are is their CPU, and their number.
type place struct {
	r        api.Rcu
	put, ran [fewCpus]int
	known
}

// what is a CPU's callback of that number.
func what(cpu, number int) uint64 { return uint64(cpu)<<32 + uint64(number) }

// op is what a CPU does at p.
func (p place) op(kind, cpu int) api.RcOp {
	return api.RcOp{Kind: kind, Cpu: cpu, What: what(cpu, p.put[cpu])}
}

// left is p, a CPU having left a section: it owes none that it is not in any more.
func (p place) left(cpu int) place {
	for who := range p.rows {
		for i := range p.many[who] {
			owed := &p.rows[who][i].owed[cpu]
			*owed = min(*owed, p.r.Readers.Nest[cpu])
		}
	}
	return p
}

// behind is p behind what a CPU does, if that has no error. It fails, if a callback runs out of its order, or ahead of the end of a section that was open when it was queued; or if what comes may not be.
func (p place) behind(t *testing.T, o api.RcOp) (place, bool) {
	t.Helper()
	r, ran, e := rcu.Step(p.r, o)
	if e != api.OK {
		return place{}, false
	}
	if rcu.Check(r) != api.OK {
		t.Fatalf("%v, behind %v: %v", p, o, r)
	}
	q := p
	q.r = r
	cpu := o.Cpu
	switch o.Kind {
	case api.RcLeave:
		q = q.left(cpu)
	case api.RcCall:
		w := &q.rows[cpu][q.many[cpu]]
		copy(w.owed[:], r.Readers.Nest)
		q.many[cpu]++
		q.put[cpu]++
	case api.RcRun:
		first := p.rows[cpu][0]
		if ran != what(cpu, p.ran[cpu]) || p.many[cpu] == 0 || first.owed != ([fewCpus]int{}) {
			t.Fatalf("%v, behind %v: %v: %d was run", p, o, r, ran)
		}
		copy(q.rows[cpu][:], p.rows[cpu][1:])
		q.rows[cpu][fewRows-1] = waited{}
		q.many[cpu]--
		q.ran[cpu]++
	}
	copy(q.nest[:], r.Readers.Nest)
	copy(q.needs[:], r.Grace.Needs)
	q.on, q.ahead = r.Grace.On, r.Grace.Asked-r.Grace.Done
	q.mustWait(t)
	return q, true
}

// mustWait fails unless just what was queued, and not run, waits, in order; and tells how many periods ahead that is.
func (p *place) mustWait(t *testing.T) {
	t.Helper()
	all := 0
	for cpu, q := range p.r.Queues {
		if len(q.List) != p.many[cpu] || p.put[cpu]-p.ran[cpu] != p.many[cpu] {
			t.Fatalf("%v: of the CPU %d there wait %v", p, cpu, q)
		}
		for i, one := range q.List {
			if one.What != what(cpu, p.ran[cpu]+i) {
				t.Fatalf("%v: of the CPU %d there wait %v", p, cpu, q)
			}
			p.rows[cpu][i].ahead = max(0, int(one.Period)-p.r.Grace.Done)
		}
		all += len(q.List)
	}
	if rcu.Waiting(p.r) != all {
		t.Fatalf("Waiting(%v): %d", p.r, rcu.Waiting(p.r))
	}
}

// mustSettle fails unless p settles, once all have left their sections, and has then run all that waited, in order.
func (p place) mustSettle(t *testing.T) {
	t.Helper()
	r := p.r
	for cpu, nest := range p.nest {
		if nest > 0 {
			if _, l, e := rcu.Settle(r); e != api.ErrOpen || len(l) != 0 {
				t.Fatalf("Settle(%v): %v, %d", r, l, e)
			}
		}
		for range nest {
			r, _ = mustRun(t, r, leaves(cpu))
		}
	}
	s, l := mustSettle(t, r)
	for _, ran := range l {
		cpu := int(ran >> 32)
		if cpu >= fewCpus || ran != what(cpu, p.ran[cpu]) {
			t.Fatalf("Settle(%v): %v: %d out of its order", r, l, ran)
		}
		p.ran[cpu]++
	}
	if p.ran != p.put || !rcu.Idle(s) || rcu.Waiting(s) != 0 || rcu.Check(s) != api.OK {
		t.Fatalf("Settle(%v): %v, %v", r, s, l)
	}
}

// mustGo goes through all places that can be, of sections so deep, and so many callbacks of a CPU, at most, and says how many these are.
func mustGo(t *testing.T, cpus, deep, many int) int {
	t.Helper()
	l := []place{{r: mustNew(t, cpus)}}
	met := map[known]int{l[0].known: 1}
	for i := 0; i < len(l); i++ {
		p := l[i]
		p.mustSettle(t)
		for cpu := range cpus {
			for kind := api.RcEnter; kind <= api.RcRun; kind++ {
				if kind == api.RcEnter && p.nest[cpu] == deep || kind == api.RcCall && p.many[cpu] == many {
					continue
				}
				q, ok := p.behind(t, p.op(kind, cpu))
				can := true
				switch kind {
				case api.RcLeave:
					can = p.nest[cpu] > 0
				case api.RcRun:
					can = p.many[cpu] > 0 && p.rows[cpu][0].ahead == 0
				}
				if ok != can {
					t.Fatalf("%v: the kind %d of the CPU %d: %v", p, kind, cpu, ok)
				}
				if ok && met[q.known] == 0 {
					met[q.known]++
					l = append(l, q)
				}
			}
		}
	}
	return len(l)
}

// P14.6: all that can be, of up to three CPUs.
func TestWhatever(t *testing.T) {
	for _, c := range []struct{ cpus, deep, many, least int }{{1, 3, 3, 300}, {2, 1, 3, 10000}, {2, 2, 2, 10000}, {3, 1, 1, 10000}} {
		if n := mustGo(t, c.cpus, c.deep, c.many); n < c.least {
			t.Errorf("of %v only %d places can be", c, n)
		}
	}
}

// opened are the sections that are open, by their numbers, and by CPUs; and of callbacks those that were open when they were queued.
type opened struct {
	met    int
	by     [][]int
	waited map[uint64]map[int]int
}

// did is what became of it by what a CPU did without an error; it fails, if a callback runs too soon, or twice.
func (s *opened) did(t *testing.T, o api.RcOp, ran uint64) {
	t.Helper()
	in := &s.by[o.Cpu]
	switch o.Kind {
	case api.RcEnter:
		s.met++
		*in = append(*in, s.met)
	case api.RcLeave:
		*in = (*in)[:len(*in)-1]
	case api.RcCall:
		s.waited[o.What] = map[int]int{}
		for _, l := range s.by {
			for _, section := range l {
				s.waited[o.What][section]++
			}
		}
	case api.RcRun:
		since, is := s.waited[ran]
		if !is {
			t.Fatalf("%d was run, and does not wait", ran)
		}
		delete(s.waited, ran)
		for _, l := range s.by {
			for _, section := range l {
				if since[section] > 0 {
					t.Fatalf("%d was run, and the section %d is open yet", ran, section)
				}
			}
		}
	}
}

// some does any things of its CPUs, r being a new one, and tells what comes of it, and how many callbacks were run.
func (s *opened) some(t *testing.T, c *chance, r api.Rcu) (api.Rcu, int) {
	t.Helper()
	ran := 0
	next := make([]int, len(s.by))
	for number := range 400 {
		o := c.op(len(s.by))
		o.What = uint64(o.Cpu)<<32 + uint64(number)
		if c.below(6) == 0 {
			o.Kind = api.RcLeave
		}
		q, what, e := rcu.Step(r, o)
		if e != api.OK {
			continue
		}
		s.did(t, o, what)
		if o.Kind == api.RcRun {
			ran++
			if at := int(what); at>>32 != o.Cpu || at&(1<<32-1) < next[o.Cpu] {
				t.Fatalf("%v, behind %v: %d was run out of its order", r, o, what)
			}
			next[o.Cpu] = int(what)&(1<<32-1) + 1
		}
		r = q
	}
	return r, ran
}

// P14.6: any ops of up to eight CPUs, sections and rows being as deep as they may: no callback runs ahead of a section that was open when it was queued, none twice, each in order; and settled all have run.
func TestSections(t *testing.T) {
	var c chance
	ran := 0
	for range 400 {
		cpus := 1 + c.below(8)
		s := &opened{by: make([][]int, cpus), waited: map[uint64]map[int]int{}}
		r, many := s.some(t, &c, mustNew(t, cpus))
		ran += many
		for cpu, l := range s.by {
			for range l {
				r, _ = mustRun(t, r, leaves(cpu))
			}
		}
		if rcu.Waiting(r) != len(s.waited) {
			t.Fatalf("Waiting(%v): %d, not %d", r, rcu.Waiting(r), len(s.waited))
		}
		r, l := mustSettle(t, r)
		for _, what := range l {
			delete(s.waited, what)
		}
		if len(s.waited) != 0 || !rcu.Idle(r) {
			t.Fatalf("settled: %v, %v; there wait %v", r, l, s.waited)
		}
	}
	if ran < 2000 {
		t.Errorf("%d callbacks were run", ran)
	}
}

// P14.6: what is settled comes of what CPUs do, one behind the other, as the chapter says it.
func TestSettleSteps(t *testing.T) {
	c := chance(9)
	for range 1000 {
		r := c.some()
		s, want, e := rcu.Settle(r)
		if e != api.OK {
			continue
		}
		var whats []uint64
		for !rcu.Idle(r) {
			for cpu := range r.Queues {
				r, _ = mustRun(t, r, picks(cpu))
				for {
					q, what, e := rcu.Step(r, runs(cpu))
					if e != api.OK {
						break
					}
					r, whats = q, append(whats, what)
				}
			}
		}
		if !rcu.Same(r, s) || len(whats) != len(want) {
			t.Fatalf("Settle: %v, %v, not %v, %v", s, want, r, whats)
		}
		for i, what := range whats {
			if what != want[i] {
				t.Fatalf("Settle: %v, not %v", want, whats)
			}
		}
	}
}
