package rcu

import (
	"iter"

	"afterglow/api"
	"afterglow/grace"
	"afterglow/queue"
	"afterglow/reader"
)

// turn is an Rcu, in memory of its own, that changes; and what was run meanwhile. What can't be done leaves it by a panic of its error.
type turn struct {
	api.Rcu
	whats []uint64
}

// tried is a turn behind what it does; or an empty one, and the error with which it was left.
func tried(does func(*turn)) (t turn, errno api.Errno) {
	defer func() {
		if wrong := recover(); wrong != nil {
			t, errno = turn{}, wrong.(api.Errno)
		}
	}()
	does(&t)
	return t, api.OK
}

// must leaves with an error, if there is one.
func must(errno api.Errno) {
	if errno != api.OK {
		panic(errno)
	}
}

// got is what a call answers, if that has no error.
func got[T any](thing T, errno api.Errno) T {
	must(errno)
	return thing
}

// hold takes an Rcu, that has to be one.
func (t *turn) hold(r api.Rcu) {
	must(Check(r))
	readers, g, _, errno := grace.Play(r.Readers, r.Grace) // no ticks: both as they are, in new memory
	must(errno)
	t.Readers, t.Grace = readers, g
	for _, q := range r.Queues {
		t.Queues = append(t.Queues, got(queue.End(q, q.Over)))
	}
}

// done takes the callbacks of a CPU that are done, one by one, and tells what they are.
func (t *turn) done(cpu int) iter.Seq[uint64] {
	return func(yield func(uint64) bool) {
		for {
			q, what, errno := queue.Take(t.Queues[cpu])
			if errno != api.OK {
				return
			}
			t.Queues[cpu] = q
			if !yield(what) {
				return
			}
		}
	}
}

// enter has a CPU enter a section.
func (t *turn) enter(o api.RcOp) {
	t.Readers = got(reader.Enter(t.Readers, o.Cpu))
}

// leave has a CPU leave one.
func (t *turn) leave(o api.RcOp) {
	t.Readers = got(reader.Leave(t.Readers, o.Cpu))
}

// call has a CPU ask for a period, and put a callback for that one.
func (t *turn) call(o api.RcOp) {
	g, period, errno := grace.Ask(t.Grace)
	must(errno)
	t.Grace = g
	t.Queues[o.Cpu] = got(queue.Put(t.Queues[o.Cpu], o.What, period-g.Done))
}

// pick has a CPU be picked, and tells the queues, if a period is over by that.
func (t *turn) pick(o api.RcOp) {
	over := t.Grace.Done
	t.Grace = got(grace.Pick(t.Grace, o.Cpu, reader.Quiet(t.Readers, o.Cpu)))
	if t.Grace.Done == over {
		return
	}
	for cpu, q := range t.Queues {
		t.Queues[cpu] = got(queue.End(q, uint64(t.Grace.Done)))
	}
}

// run has a CPU run the first callback that is done.
func (t *turn) run(o api.RcOp) {
	for what := range t.done(o.Cpu) {
		t.whats = append(t.whats, what)
		return
	}
	panic(api.ErrNone)
}

// deeds are what the kinds do.
func (t *turn) deeds() map[int]func(api.RcOp) {
	return map[int]func(api.RcOp){
		api.RcEnter: t.enter,
		api.RcLeave: t.leave,
		api.RcCall:  t.call,
		api.RcPick:  t.pick,
		api.RcRun:   t.run,
	}
}

// ops has CPUs do something, one behind the other.
func (t *turn) ops(l []api.RcOp) {
	deeds := t.deeds()
	for _, o := range l {
		does, is := deeds[o.Kind]
		switch {
		case !is:
			panic(api.ErrOpRc)
		case !has(t.Rcu, o.Cpu):
			panic(api.ErrArg)
		}
		does(o)
	}
}

// Step: P14.2.
func Step(r api.Rcu, o api.RcOp) (api.Rcu, uint64, api.Errno) {
	r, whats, errno := Run(r, o)
	if len(whats) == 0 {
		return r, 0, errno
	}
	return r, whats[0], errno
}

// Run: P14.3.
func Run(r api.Rcu, l ...api.RcOp) (api.Rcu, []uint64, api.Errno) {
	t, errno := tried(func(t *turn) {
		t.hold(r)
		t.ops(l)
	})
	return t.Rcu, t.whats, errno
}
