package rcu

import "afterglow/api"

// settle goes on, CPU by CPU, till it is idle: nobody is in a section, so each period that is asked for comes to its end.
func (t *turn) settle() {
	cpu := 0
again:
	if idle(t.Rcu) {
		return
	}
	t.pick(api.RcOp{Cpu: cpu})
	for what := range t.done(cpu) {
		t.whats = append(t.whats, what)
	}
	cpu = (cpu + 1) % len(t.Queues)
	goto again
}

// Settle: P14.5.
func Settle(r api.Rcu) (api.Rcu, []uint64, api.Errno) {
	t, errno := tried(func(t *turn) {
		t.hold(r)
		if open(r) {
			panic(api.ErrOpen)
		}
		t.settle()
	})
	return t.Rcu, t.whats, errno
}
