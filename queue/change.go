package queue

import (
	"iter"

	"afterglow/api"
)

// done tells what the callbacks are that are done, in order.
func done(q api.Queue) iter.Seq[uint64] {
	return func(yield func(uint64) bool) {
		for _, one := range q.List {
			if one.Period > q.Over || !yield(one.What) {
				return
			}
		}
	}
}

// drained is a queue in memory of its own, out of which callbacks go, and what those are.
type drained struct {
	api.Queue
	whats []uint64
}

// take has the first callback go, that is so.
func (d *drained) take(what uint64) {
	d.whats = append(d.whats, what)
	d.List = d.List[1:len(d.List):len(d.List)]
}

// drain is q without the first so many callbacks that are done.
func drain(q api.Queue, most int) drained {
	d := drained{Queue: own(q)}
	take := d.take
taking:
	for what := range done(q) {
		switch len(d.whats) {
		case most:
			break taking
		default:
			take(what)
		}
	}
	return d
}

// Put: P13.2.
func Put(q api.Queue, what uint64, ahead int) (api.Queue, api.Errno) {
	if !may(q) {
		return api.Queue{}, api.ErrQueue
	}
	if ahead < 1 || ahead > 2 {
		return api.Queue{}, api.ErrArg
	}
	period := q.Over + uint64(ahead)
	if !allows(q)(period) {
		return api.Queue{}, api.ErrArg
	}
	if len(q.List) == api.MaxCallbacks {
		return api.Queue{}, api.ErrFull
	}
	q = own(q)
	q.List = append(q.List, api.Callback{Period: period, What: what})
	return q, api.OK
}

// End: P13.2.
func End(q api.Queue, over uint64) (api.Queue, api.Errno) {
	if !may(q) {
		return api.Queue{}, api.ErrQueue
	}
	if over < q.Over || over > last {
		return api.Queue{}, api.ErrArg
	}
	q = own(q)
	q.Over = over
	return q, api.OK
}

// Take: P13.3.
func Take(q api.Queue) (api.Queue, uint64, api.Errno) {
	if !may(q) {
		return api.Queue{}, 0, api.ErrQueue
	}
	d := drain(q, 1)
	if len(d.whats) == 0 {
		return api.Queue{}, 0, api.ErrNone
	}
	return d.Queue, d.whats[0], api.OK
}

// Drain: P13.3.
func Drain(q api.Queue, most int) (api.Queue, []uint64, api.Errno) {
	if !may(q) {
		return api.Queue{}, nil, api.ErrQueue
	}
	if most < 0 {
		return api.Queue{}, nil, api.ErrArg
	}
	d := drain(q, most)
	return d.Queue, d.whats, api.OK
}
