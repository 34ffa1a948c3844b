package pool_test

import (
	"slices"
	"testing"

	"afterglow/api"
	"afterglow/pool"
)

// P7.1: there is a pool of each multiple of 16 that leaves room for the pages, and of no other; all its pages are free, the greatest number first.
func TestNew(t *testing.T) {
	for base := -40; base <= 4200; base++ {
		for pages := -2; pages <= 67; pages++ {
			p, e := pool.New(base, pages)
			if base < 0 || base%16 != 0 || pages < 0 || pages > 64 || base > 4096-16*pages {
				if e != api.ErrArg || !empty(p) {
					t.Fatalf("New(%d, %d): %v, %d", base, pages, p, e)
				}
				continue
			}
			if want := (api.Pool{Base: base, Pages: pages, Free: down(pages)}); e != api.OK || !alike(p, want) {
				t.Fatalf("New(%d, %d): %v, %d", base, pages, p, e)
			}
		}
	}
}

// P7.1: the edges are a pool behind all words, of no pages, and one of 64 pages up to the last word.
func TestNewEdges(t *testing.T) {
	for _, c := range [][2]int{{0, 0}, {4096, 0}, {4080, 1}, {4080, 0}, {0, 64}, {3072, 64}, {3088, 63}} {
		p := mustNew(t, c[0], c[1])
		if e := pool.Check(p); e != api.OK || len(p.Free) != c[1] {
			t.Errorf("New(%d, %d): %v, which Check says is %d", c[0], c[1], p, e)
		}
	}
	for _, c := range append(noPlaces(), [][2]int{{4090, 1}, {4096, 1}, {3088, 64}, {0, 65}, {0, 256}, {8, 0}, {4112, 0}, {-16, 1}}...) {
		if p, e := pool.New(c[0], c[1]); e != api.ErrArg || !empty(p) {
			t.Errorf("New(%d, %d): %v, %d", c[0], c[1], p, e)
		}
	}
}

// P7.1: pools that are asked for twice share nothing.
func TestNewIsNew(t *testing.T) {
	a, b := mustNew(t, 32, 5), mustNew(t, 32, 5)
	scrub(a.Free, 9)
	if !slices.Equal(b.Free, down(5)) {
		t.Errorf("New shares its list: %v", b.Free)
	}
}

// P7.1: free pages are those of the pool, in any order, none twice.
func TestCheck(t *testing.T) {
	var c chance
	for range 3000 {
		if p := c.somePool(64); pool.Check(p) != api.OK {
			t.Errorf("Check(%v): %d", p, pool.Check(p))
		}
	}
	for _, free := range [][]int{nil, {}, {0}, {1}, {2}, {0, 1}, {2, 0}, {1, 2, 0}, {0, 1, 2}} {
		if p := (api.Pool{Base: 48, Pages: 3, Free: free}); pool.Check(p) != api.OK {
			t.Errorf("Check(%v): %d", p, pool.Check(p))
		}
	}
	for _, p := range noPools() {
		if e := pool.Check(p); e != api.ErrPool {
			t.Errorf("Check(%v): %d", p, e)
		}
	}
}

// P7.1: a page that is none, or stands twice, is found at each place.
func TestCheckPlaces(t *testing.T) {
	for at := range 64 {
		for _, page := range append(edges(), (at+1)%64) {
			free := down(64)
			slices.Reverse(free)
			free[at] = page
			if p := (api.Pool{Pages: 64, Free: free}); pool.Check(p) != api.ErrPool {
				t.Errorf("Check with the page %d at %d: %d", page, at, pool.Check(p))
			}
		}
	}
}

// P7.1: two pools are the same if each part is, the order of Free, too; nil and empty are one; also of those that may not be.
func TestSame(t *testing.T) {
	p := api.Pool{Base: 32, Pages: 3, Free: []int{2, 0}}
	if !pool.Same(p, told(p)) {
		t.Errorf("%v is not the same as a copy", p)
	}
	others := []api.Pool{
		{},
		{Base: 48, Pages: 3, Free: []int{2, 0}},
		{Base: 32, Pages: 4, Free: []int{2, 0}},
		{Base: 32, Pages: 3},
		{Base: 32, Pages: 3, Free: []int{0, 2}},
		{Base: 32, Pages: 3, Free: []int{2, 1}},
		{Base: 32, Pages: 3, Free: []int{2}},
		{Base: 32, Pages: 3, Free: []int{0}},
		{Base: 32, Pages: 3, Free: []int{2, 0, 1}},
		{Base: 32, Pages: 3, Free: []int{1, 2, 0}},
	}
	for _, q := range others {
		if pool.Same(p, q) || pool.Same(q, p) {
			t.Errorf("%v is the same as %v", p, q)
		}
	}
	if !pool.Same(api.Pool{Pages: 2}, api.Pool{Pages: 2, Free: []int{}}) || !pool.Same(api.Pool{}, api.Pool{Free: []int{}}) {
		t.Error("nil and empty are not the same")
	}
	l := noPools()
	for i, a := range l {
		for _, b := range l[max(0, i-5):] {
			if got := pool.Same(a, b); got != alike(a, b) {
				t.Errorf("Same(%v, %v): %v", a, b, got)
			}
		}
	}
}

// P7.2 to P7.4: what may not be has ErrPool ahead of all else, and no taken pages.
func TestNoPools(t *testing.T) {
	for _, p := range noPools() {
		if q, page, e := pool.Take(p); e != api.ErrPool || page != 0 || !empty(q) {
			t.Errorf("Take(%v): %v, %d, %d", p, q, page, e)
		}
		for _, pages := range [][]int{nil, {0}, {-1}, {1, 1}, {99, 0}, edges()} {
			if q, e := pool.Give(p, pages...); e != api.ErrPool || !empty(q) {
				t.Errorf("Give(%v, %v): %v, %d", p, pages, q, e)
			}
		}
		for _, n := range append(edges(), 0, 1, 2, 16, 32, 47) {
			if w, e := pool.Word(p, n); e != api.ErrPool || w != 0 {
				t.Errorf("Word(%v, %d): %d, %d", p, n, w, e)
			}
			if page, k, e := pool.Page(p, n); e != api.ErrPool || page != 0 || k != 0 {
				t.Errorf("Page(%v, %d): %d, %d, %d", p, n, page, k, e)
			}
		}
		if l := pool.Taken(p); len(l) != 0 {
			t.Errorf("Taken(%v): %v", p, l)
		}
	}
}
