package pool_test

import (
	"math"
	"slices"
	"testing"

	"afterglow/api"
	"afterglow/pool"
)

// chance follows from a short rule, and is the same each time.
type chance uint64

func (c *chance) below(n int) int {
	*c = *c*6364136223846793005 + 1442695040888963407
	return int(uint64(*c>>33) % uint64(n))
}

// somePool is one that may be, of at most so many pages, some of which are free, in any order.
func (c *chance) somePool(most int) api.Pool {
	p := api.Pool{Pages: c.below(most + 1)}
	p.Base = 16 * c.below(257-p.Pages)
	for page := range p.Pages {
		if c.below(2) == 0 {
			p.Free = slices.Insert(p.Free, c.below(len(p.Free)+1), page)
		}
	}
	return p
}

// edges are numbers that are often none of a page, a word, or a place.
func edges() []int {
	return []int{math.MinInt, math.MinInt + 1, -1 << 32, -4096, -65, -64, -16, -2, -1, 64, 65, 256, 4096, 4097, 1 << 32, 1<<32 + 1, 1 << 60, math.MaxInt - 15, math.MaxInt}
}

// down are the numbers below n, falling.
func down(n int) []int {
	var l []int
	for i := n - 1; i >= 0; i-- {
		l = append(l, i)
	}
	return l
}

// noPools are some that may not be, each for one cause alone.
func noPools() []api.Pool {
	var l []api.Pool
	for _, base := range []int{math.MinInt, -4096, -32, -16, -15, -1, 1, 8, 15, 17, 31, 33, 4081, 4095, 4097, 4112, 1 << 32, 1 << 60, math.MaxInt - 15, math.MaxInt} {
		l = append(l, api.Pool{Base: base}, api.Pool{Base: base, Pages: 1, Free: []int{0}}, api.Pool{Base: base, Pages: 3, Free: []int{1}})
	}
	for _, pages := range []int{math.MinInt, -64, -2, -1, 65, 66, 128, 256, 1 << 32, 1 << 60, math.MaxInt} {
		l = append(l, api.Pool{Pages: pages}, api.Pool{Base: 32, Pages: pages, Free: []int{0, 1}})
	}
	for pages := 1; pages <= 64; pages += 21 {
		l = append(l, api.Pool{Base: 4096 - 16*pages + 16, Pages: pages}, api.Pool{Base: 4096, Pages: pages, Free: down(pages)})
	}
	for _, page := range append(edges(), 3, 4) {
		l = append(l, api.Pool{Pages: 3, Free: []int{page}}, api.Pool{Pages: 3, Free: []int{page, 2, 0}}, api.Pool{Pages: 3, Free: []int{2, 1, page}})
	}
	return append(l,
		api.Pool{Free: []int{0}},
		api.Pool{Base: 4096, Free: []int{0}},
		api.Pool{Pages: 1, Free: []int{0, 0}},
		api.Pool{Pages: 3, Free: []int{1, 0, 1}},
		api.Pool{Pages: 3, Free: []int{2, 1, 0, 2}},
		api.Pool{Pages: 64, Free: append(down(64), 63)},
		api.Pool{Pages: 64, Free: append(down(64), 0)},
		api.Pool{Pages: 64, Free: append([]int{31}, down(64)...)},
		api.Pool{Pages: 64, Free: make([]int, 10000)},
	)
}

// noPlaces are bases and pages of which there is no pool.
func noPlaces() [][2]int {
	var l [][2]int
	for _, p := range noPools() {
		if len(p.Free) == 0 {
			l = append(l, [2]int{p.Base, p.Pages})
		}
	}
	return l
}

// empty says whether p is the zero value.
func empty(p api.Pool) bool {
	return p.Base == 0 && p.Pages == 0 && len(p.Free) == 0
}

// told is p in memory of its own.
func told(p api.Pool) api.Pool {
	p.Free = slices.Clone(p.Free)
	return p
}

// alike says whether two pools are one.
func alike(a, b api.Pool) bool {
	return a.Base == b.Base && a.Pages == b.Pages && slices.Equal(a.Free, b.Free)
}

// roomy is l with room behind its end, and something there.
func roomy(l []int) []int {
	return append(slices.Clone(l), slices.Repeat([]int{55}, 70)...)[:len(l)]
}

// whole is a copy of l with the room behind it.
func whole(l []int) []int {
	return slices.Clone(l[:cap(l)])
}

// scrub writes over all of l, the room behind it, too.
func scrub(l []int, with int) {
	for i := range l[:cap(l)] {
		l[:cap(l)][i] = with
	}
}

// keepsApart asks a call twice of a pool and of pages that have room, and fails if these change, or if what is answered shares its list with anything.
func keepsApart(t *testing.T, p api.Pool, pages []int, call func(api.Pool, []int) []int) {
	t.Helper()
	given, handed := told(p), roomy(pages)
	given.Free = roomy(p.Free)
	before, held := whole(given.Free), whole(handed)
	first := call(given, handed)
	second := call(given, handed)
	if !slices.Equal(whole(given.Free), before) || !slices.Equal(whole(handed), held) {
		t.Errorf("%v, %v is changed: %v, %v", before, held, whole(given.Free), whole(handed))
	}
	want := slices.Clone(second)
	for i, l := range [][]int{given.Free, handed, first} {
		scrub(l, 70+i)
	}
	if !slices.Equal(second, want) {
		t.Errorf("what is told of %v, %v is shared: %v, then %v", p, held, want, second)
	}
}

// plain is a pool told otherwise: when each free page was given, of which the last one is taken next.
type plain struct {
	pages, now int
	since      map[int]int
}

func plainOf(p api.Pool) *plain {
	q := &plain{pages: p.Pages, since: map[int]int{}}
	for _, page := range p.Free {
		q.put(page)
	}
	return q
}

func (q *plain) put(page int) {
	q.now++
	q.since[page] = q.now
}

func (q *plain) take() (int, api.Errno) {
	best, when := 0, 0
	for page, since := range q.since {
		if since > when {
			best, when = page, since
		}
	}
	if when == 0 {
		return 0, api.ErrFull
	}
	delete(q.since, best)
	return best, api.OK
}

func (q *plain) give(pages []int) api.Errno {
	for _, page := range pages {
		if page < 0 || page >= q.pages {
			return api.ErrArg
		}
		if q.since[page] > 0 {
			return api.ErrThere
		}
		q.put(page)
	}
	return api.OK
}

// free are the free pages, the one that was given last behind all others.
func (q *plain) free() []int {
	var l []int
	for when := 1; when <= q.now; when++ {
		for page, since := range q.since {
			if since == when {
				l = append(l, page)
			}
		}
	}
	return l
}

// mustTake takes a page.
func mustTake(t *testing.T, p api.Pool) (api.Pool, int) {
	t.Helper()
	q, page, e := pool.Take(p)
	if e != api.OK {
		t.Fatalf("Take of %v: %d", p, e)
	}
	return q, page
}

// mustGive gives pages.
func mustGive(t *testing.T, p api.Pool, pages ...int) api.Pool {
	t.Helper()
	q, e := pool.Give(p, pages...)
	if e != api.OK {
		t.Fatalf("Give of %v, %v: %d", p, pages, e)
	}
	return q
}

// mustNew makes a pool.
func mustNew(t *testing.T, base, pages int) api.Pool {
	t.Helper()
	p, e := pool.New(base, pages)
	if e != api.OK {
		t.Fatalf("New(%d, %d): %d", base, pages, e)
	}
	return p
}
