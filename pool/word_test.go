package pool_test

import (
	"math"
	"slices"
	"testing"

	"afterglow/api"
	"afterglow/pool"
)

// P7.3: the first word of each page, be it free or taken; ErrArg for those that are none.
func TestWord(t *testing.T) {
	for _, p := range []api.Pool{{}, {Base: 4096}, {Base: 32, Pages: 3}, {Base: 32, Pages: 3, Free: []int{1, 0}}, {Pages: 64, Free: down(64)}, {Base: 3072, Pages: 64}, {Base: 4080, Pages: 1, Free: []int{0}}} {
		for page := -70; page <= 140; page++ {
			w, e := pool.Word(p, page)
			if page >= 0 && page < p.Pages {
				if e != api.OK || w != p.Base+16*page {
					t.Errorf("Word(%v, %d): %d, %d", p, page, w, e)
				}
			} else if e != api.ErrArg || w != 0 {
				t.Errorf("Word(%v, %d): %d, %d", p, page, w, e)
			}
		}
		for _, page := range edges() {
			if w, e := pool.Word(p, page); e != api.ErrArg || w != 0 {
				t.Errorf("Word(%v, %d): %d, %d", p, page, w, e)
			}
		}
	}
}

// P7.3: the page of each word, and how many stand ahead in it, as page by page tells; ErrArg for words of no page.
func TestPage(t *testing.T) {
	for _, p := range []api.Pool{{}, {Base: 4096}, {Base: 32, Pages: 3}, {Base: 32, Pages: 3, Free: []int{1, 0}}, {Pages: 64, Free: down(64)}, {Base: 3072, Pages: 64}, {Base: 4080, Pages: 1, Free: []int{0}}, {Base: 64}} {
		type place struct{ page, ahead int }
		places := map[int]place{}
		for page := range p.Pages {
			for ahead := range 16 {
				places[p.Base+16*page+ahead] = place{page, ahead}
			}
		}
		for word := -100; word <= 4200; word++ {
			page, ahead, e := pool.Page(p, word)
			want, had := places[word]
			if had != (e == api.OK) || !had && e != api.ErrArg || page != want.page || ahead != want.ahead {
				t.Errorf("Page(%v, %d): %d, %d, %d", p, word, page, ahead, e)
			}
		}
		for _, word := range []int{math.MinInt, math.MinInt + 16, -1 << 32, 1 << 32, 1<<32 + 40, 1 << 60, math.MaxInt - 15, math.MaxInt} {
			if page, ahead, e := pool.Page(p, word); e != api.ErrArg || page != 0 || ahead != 0 {
				t.Errorf("Page(%v, %d): %d, %d, %d", p, word, page, ahead, e)
			}
		}
	}
}

// P7.4: the pages that Free has not, rising.
func TestTaken(t *testing.T) {
	for _, c := range []struct {
		free, want []int
	}{
		{nil, []int{0, 1, 2, 3}},
		{[]int{}, []int{0, 1, 2, 3}},
		{[]int{0}, []int{1, 2, 3}},
		{[]int{3}, []int{0, 1, 2}},
		{[]int{2, 0}, []int{1, 3}},
		{[]int{1, 2}, []int{0, 3}},
		{[]int{0, 3, 1}, []int{2}},
		{[]int{3, 2, 1, 0}, nil},
	} {
		if l := pool.Taken(api.Pool{Base: 16, Pages: 4, Free: c.free}); !slices.Equal(l, c.want) {
			t.Errorf("Taken with %v free: %v, not %v", c.free, l, c.want)
		}
	}
	if l := pool.Taken(api.Pool{}); len(l) != 0 {
		t.Errorf("Taken of no pages: %v", l)
	}
	var c chance
	for range 1000 {
		p := c.somePool(64)
		want := down(p.Pages)
		slices.Reverse(want)
		want = slices.DeleteFunc(want, func(page int) bool { return slices.Contains(p.Free, page) })
		if l := pool.Taken(p); !slices.Equal(l, want) {
			t.Errorf("Taken(%v): %v, not %v", p, l, want)
		}
	}
}

// P7.3, P7.4: what is handed in stays as it is, and is not kept.
func TestWordsApart(t *testing.T) {
	var c chance
	for range 100 {
		p := c.somePool(8)
		keepsApart(t, p, nil, func(p api.Pool, _ []int) []int {
			pool.Word(p, c.below(8))
			pool.Page(p, p.Base+c.below(100))
			pool.Check(p)
			pool.Same(p, p)
			return pool.Taken(p)
		})
	}
}
