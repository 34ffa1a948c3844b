package queue_test

import (
	"maps"
	"math"
	"slices"
	"testing"

	"afterglow/api"
	"afterglow/queue"
)

// most is the number of the last period that can be over.
const most = 1<<63 - 2

// chance follows from a short rule, and is the same each time.
type chance uint64

func (c *chance) below(n int) int {
	*c = *c*6364136223846793005 + 1442695040888963407
	return int(uint64(*c>>33) % uint64(n))
}

// plain is a queue told otherwise: what waits for each period; and which one is over.
type plain struct {
	over uint64
	rows map[uint64][]uint64
}

// plainOf is q told otherwise.
func plainOf(q api.Queue) plain {
	p := plain{q.Over, map[uint64][]uint64{}}
	for _, one := range q.List {
		p.rows[one.Period] = append(p.rows[one.Period], one.What)
	}
	return p
}

// periods are those for which something waits, rising.
func (p plain) periods() []uint64 {
	return slices.Sorted(maps.Keys(p.rows))
}

// many is how many wait.
func (p plain) many() int {
	n := 0
	for _, row := range p.rows {
		n += len(row)
	}
	return n
}

// queue is p as a queue.
func (p plain) queue() api.Queue {
	q := api.Queue{Over: p.over}
	for _, period := range p.periods() {
		for _, what := range p.rows[period] {
			q.List = append(q.List, api.Callback{Period: period, What: what})
		}
	}
	return q
}

// put puts something.
func (p plain) put(what uint64, ahead int) api.Errno {
	if ahead != 1 && ahead != 2 || ahead == 1 && len(p.rows[p.over+2]) > 0 {
		return api.ErrArg
	}
	if p.many() == 16 {
		return api.ErrFull
	}
	period := p.over + uint64(ahead)
	p.rows[period] = append(p.rows[period], what)
	return api.OK
}

// drain has so many go that are done.
func (p plain) drain(n int) []uint64 {
	var l []uint64
	for _, period := range p.periods() {
		if period > p.over {
			break
		}
		row := p.rows[period]
		k := min(n-len(l), len(row))
		l = append(l, row[:k]...)
		if p.rows[period] = row[k:]; len(row) == k {
			delete(p.rows, period)
		}
	}
	return l
}

// segments is how many are done, wait, and are next.
func (p plain) segments() [3]int {
	wait, next := len(p.rows[p.over+1]), len(p.rows[p.over+2])
	return [3]int{p.many() - wait - next, wait, next}
}

// some is any queue: of few periods that are over, or of as many as can be.
func (c *chance) some() api.Queue {
	over := []uint64{0, 1, 2, 40, most - 2, most - 1, most}[c.below(7)]
	return c.someOf(over, c.below(17))
}

// someOf is any queue of that Over, of so many callbacks.
func (c *chance) someOf(over uint64, many int) api.Queue {
	q := api.Queue{Over: over}
	for range many {
		back := min(over, uint64(c.below(4)))
		q.List = append(q.List, api.Callback{Period: over + uint64(c.below(3)) - back, What: uint64(c.below(20))})
	}
	slices.SortFunc(q.List, func(a, b api.Callback) int {
		if a.Period < b.Period {
			return -1
		} else if a.Period > b.Period {
			return 1
		}
		return 0
	})
	return q
}

// row is a queue of callbacks of these periods; what they are is 1, 2, ..
func row(over uint64, periods ...uint64) api.Queue {
	q := api.Queue{Over: over}
	for i, period := range periods {
		q.List = append(q.List, api.Callback{Period: period, What: uint64(i) + 1})
	}
	return q
}

// level is a queue of so many callbacks of one period.
func level(over, period uint64, many int) api.Queue {
	return row(over, slices.Repeat([]uint64{period}, many)...)
}

// told is q in memory of its own.
func told(q api.Queue) api.Queue {
	q.List = slices.Clone(q.List)
	return q
}

// alike says whether two queues are one.
func alike(a, b api.Queue) bool {
	return a.Over == b.Over && slices.Equal(a.List, b.List)
}

// empty says whether q is the zero value.
func empty(q api.Queue) bool {
	return q.Over == 0 && len(q.List) == 0
}

// edges are numbers that are not 1, 2, nor any of how many there may be.
func edges() []int {
	return []int{math.MinInt, math.MinInt + 1, math.MinInt + 2, -1 << 60, -1 << 32, -1<<32 + 1, -1 << 31, -8, -2, -1}
}

// aheads are numbers of periods ahead that may not be.
func aheads() []int {
	return append(edges(), 0, 3, 4, 16, 257, 258, 1<<16+1, 1<<32+1, 1<<32+2, 1<<60, math.MaxInt-1, math.MaxInt)
}

// greats are numbers of periods that can't be over.
func greats() []uint64 {
	return []uint64{most + 1, most + 2, most + 3, most + 4, math.MaxUint64 - 2, math.MaxUint64 - 1, math.MaxUint64}
}

// noQueues are some that may not be, of each cause.
func noQueues() []api.Queue {
	l := []api.Queue{
		row(0, 3), row(0, 1, 3), row(0, 2, 1), row(0, 1, 0), row(5, 8), row(5, 5, 4), row(5, 6, 5, 7), row(5, 7, 6), row(5, 1, 2, 3, 4, 5, 6, 7, 8), row(5, 0, 0, 1, 0), row(5, 7, 0),
		level(0, 1, 17), level(0, 0, 17), level(9, 11, 17), level(9, 3, 32), level(9, 3, 100000),
		row(most, most+3), row(most, most+2, most+1), row(most, most, most-1), row(most-1, most+2), row(0, most), row(0, math.MaxUint64), row(5, 1, math.MaxUint64), row(most, math.MaxUint64),
	}
	for _, over := range greats() {
		l = append(l, row(over), row(over, 0), row(over, 1), row(over, over), row(over, over+1), row(over, over+2))
	}
	return l
}

// mustNew is a queue of nothing.
func mustNew(t *testing.T, over uint64) api.Queue {
	t.Helper()
	q, e := queue.New(over)
	if e != api.OK || !alike(q, api.Queue{Over: over}) {
		t.Fatalf("New(%d): %v, %d", over, q, e)
	}
	return q
}

// mustPut is q, something being put into it.
func mustPut(t *testing.T, q api.Queue, what uint64, ahead int) api.Queue {
	t.Helper()
	r, e := queue.Put(q, what, ahead)
	if e != api.OK {
		t.Fatalf("Put(%v, %d, %d): %v, %d", q, what, ahead, r, e)
	}
	return r
}

// mustEnd is q, a period being over.
func mustEnd(t *testing.T, q api.Queue, over uint64) api.Queue {
	t.Helper()
	r, e := queue.End(q, over)
	if e != api.OK {
		t.Fatalf("End(%v, %d): %v, %d", q, over, r, e)
	}
	return r
}

// mustDrain is q, without callbacks that are done, and these.
func mustDrain(t *testing.T, q api.Queue, n int) (api.Queue, []uint64) {
	t.Helper()
	r, l, e := queue.Drain(q, n)
	if e != api.OK {
		t.Fatalf("Drain(%v, %d): %v, %v, %d", q, n, r, l, e)
	}
	return r, l
}

// behind is a callback that a test lays behind a row's end.
var behind = api.Callback{Period: 999, What: 999}

// roomy is l with room behind its end, and something there.
func roomy[T any](l []T, with T) []T {
	return append(slices.Clone(l), slices.Repeat([]T{with}, 20)...)[:len(l)]
}

// whole is a copy of l with the room behind it.
func whole[T any](l []T) []T {
	return slices.Clone(l[:cap(l)])
}

// scrub writes over all of l, the room behind it, too.
func scrub[T any](l []T, with T) {
	for i := range l[:cap(l)] {
		l[:cap(l)][i] = with
	}
}
