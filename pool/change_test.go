package pool_test

import (
	"slices"
	"testing"

	"afterglow/api"
	"afterglow/pool"
)

// P7.2: the last one of Free is taken, and the others stay in order; if none is free it is ErrFull.
func TestTake(t *testing.T) {
	for _, c := range []struct {
		free []int
		page int
		left []int
	}{
		{[]int{2, 1, 0}, 0, []int{2, 1}},
		{[]int{0, 1, 2}, 2, []int{0, 1}},
		{[]int{1, 2, 0}, 0, []int{1, 2}},
		{[]int{2, 0}, 0, []int{2}},
		{[]int{1}, 1, nil},
	} {
		p := api.Pool{Base: 32, Pages: 3, Free: c.free}
		q, page, e := pool.Take(p)
		if want := (api.Pool{Base: 32, Pages: 3, Free: c.left}); e != api.OK || page != c.page || !alike(q, want) {
			t.Errorf("Take(%v): %v, %d, %d", p, q, page, e)
		}
	}
	for _, p := range []api.Pool{{}, {Free: []int{}}, {Base: 4096}, {Base: 32, Pages: 3}, {Pages: 64, Free: []int{}}} {
		if q, page, e := pool.Take(p); e != api.ErrFull || page != 0 || !empty(q) {
			t.Errorf("Take(%v): %v, %d, %d", p, q, page, e)
		}
	}
}

// P7.2: what is given stands behind the others of Free, in order; nothing may be given, too.
func TestGive(t *testing.T) {
	for _, c := range []struct {
		free, pages, want []int
	}{
		{[]int{2}, []int{0}, []int{2, 0}},
		{[]int{2}, []int{0, 1}, []int{2, 0, 1}},
		{[]int{2}, []int{1, 0}, []int{2, 1, 0}},
		{nil, []int{2, 0, 1, 3}, []int{2, 0, 1, 3}},
		{nil, []int{3}, []int{3}},
		{nil, nil, nil},
		{[]int{3, 1}, nil, []int{3, 1}},
		{[]int{3, 2, 1, 0}, []int{}, []int{3, 2, 1, 0}},
	} {
		p := api.Pool{Base: 64, Pages: 4, Free: c.free}
		q, e := pool.Give(p, c.pages...)
		if want := (api.Pool{Base: 64, Pages: 4, Free: c.want}); e != api.OK || !alike(q, want) {
			t.Errorf("Give(%v, %v): %v, %d", p, c.pages, q, e)
		}
	}
	if p, e := pool.Give(api.Pool{}); e != api.OK || !empty(p) {
		t.Errorf("Give of nothing to no pages: %v, %d", p, e)
	}
}

// P7.2: of the first page that has an error, it is answered: no such page, or free, also by one ahead in the row.
func TestGiveErrors(t *testing.T) {
	for _, c := range []struct {
		pages []int
		want  api.Errno
	}{
		{[]int{4}, api.ErrArg},
		{[]int{-1}, api.ErrArg},
		{[]int{1}, api.ErrThere},
		{[]int{3}, api.ErrThere},
		{[]int{0, 0}, api.ErrThere},
		{[]int{0, 2, 0}, api.ErrThere},
		{[]int{0, 2, 2}, api.ErrThere},
		{[]int{0, 2, 1}, api.ErrThere},
		{[]int{0, 2, 4}, api.ErrArg},
		{[]int{0, 0, 4}, api.ErrThere},
		{[]int{0, 4, 0}, api.ErrArg},
		{[]int{4, 1}, api.ErrArg},
		{[]int{1, 4}, api.ErrThere},
		{[]int{-1, 3, 0}, api.ErrArg},
		{[]int{3, -1, 0}, api.ErrThere},
	} {
		p := api.Pool{Base: 64, Pages: 4, Free: []int{3, 1}}
		if q, e := pool.Give(p, c.pages...); e != c.want || !empty(q) {
			t.Errorf("Give(%v, %v): %v, %d, not %d", p, c.pages, q, e, c.want)
		}
	}
	for _, page := range edges() {
		for _, pages := range []int{0, 1, 63, 64} {
			p := api.Pool{Pages: pages}
			if q, e := pool.Give(p, page); e != api.ErrArg || !empty(q) {
				t.Errorf("Give(%v, %d): %v, %d", p, page, q, e)
			}
		}
	}
}

// P7.2: a row may be longer than there are pages; it has an error then.
func TestGiveLong(t *testing.T) {
	none := api.Pool{Pages: 64}
	if p, e := pool.Give(none, down(64)...); e != api.OK || !alike(p, mustNew(t, 0, 64)) {
		t.Errorf("Give of all pages: %v, %d", p, e)
	}
	if p, e := pool.Give(none, append(down(64), 5)...); e != api.ErrThere || !empty(p) {
		t.Errorf("Give of all pages and one: %v, %d", p, e)
	}
	if p, e := pool.Give(none, append(down(64), 64)...); e != api.ErrArg || !empty(p) {
		t.Errorf("Give of all pages and one that is none: %v, %d", p, e)
	}
	if p, e := pool.Give(none, make([]int, 100000)...); e != api.ErrThere || !empty(p) {
		t.Errorf("Give of one page again and again: %v, %d", p, e)
	}
}

// P7.2: any pages, given to any pool, and taken, as they are told otherwise.
func TestPlain(t *testing.T) {
	var c chance
	for range 4000 {
		p := c.somePool(6)
		for range 12 {
			q := plainOf(p)
			var got api.Pool
			var e, want api.Errno
			if c.below(2) == 0 {
				var page, wantPage int
				got, page, e = pool.Take(p)
				if wantPage, want = q.take(); page != wantPage {
					t.Fatalf("Take(%v): %d, not %d", p, page, wantPage)
				}
			} else {
				pages := make([]int, c.below(4))
				for i := range pages {
					pages[i] = c.below(8) - 1
				}
				got, e = pool.Give(p, pages...)
				want = q.give(pages)
			}
			if e != want || e != api.OK && !empty(got) {
				t.Fatalf("%v comes to %v, %d, not %d", p, got, e, want)
			}
			if e != api.OK {
				continue
			}
			if wanted := (api.Pool{Base: p.Base, Pages: p.Pages, Free: q.free()}); !alike(got, wanted) {
				t.Fatalf("%v comes to %v, not %v", p, got, wanted)
			}
			p = got
		}
	}
}

// P7.2: what is handed in stays as it is, the room behind it, too, and is not kept.
func TestChangesApart(t *testing.T) {
	var c chance
	for range 200 {
		p := c.somePool(8)
		take := func(p api.Pool, _ []int) []int {
			q, _, _ := pool.Take(p)
			return q.Free
		}
		give := func(p api.Pool, pages []int) []int {
			q, _ := pool.Give(p, pages...)
			return q.Free
		}
		keepsApart(t, p, nil, take)
		for _, pages := range [][]int{nil, pool.Taken(p), {c.below(9)}, {c.below(8), c.below(8)}} {
			keepsApart(t, p, pages, give)
		}
	}
}

// P7.2: from one pool several others come, and none of them hangs on what is done to another.
func TestBranches(t *testing.T) {
	p := mustNew(t, 0, 5)
	p, _ = mustTake(t, p)
	p, _ = mustTake(t, p)
	p, _ = mustTake(t, p)
	a, b := mustGive(t, p, 0), mustGive(t, p, 1, 2)
	c, page := mustTake(t, p)
	d := mustGive(t, c, 1)
	for _, x := range []struct {
		p    api.Pool
		want []int
	}{{p, []int{4, 3}}, {a, []int{4, 3, 0}}, {b, []int{4, 3, 1, 2}}, {c, []int{4}}, {d, []int{4, 1}}} {
		if !slices.Equal(x.p.Free, x.want) || page != 3 {
			t.Errorf("%v has not %v free", x.p, x.want)
		}
	}
}
