package slab_test

import (
	"math"
	"slices"
	"testing"

	"afterglow/api"
	"afterglow/slab"
)

// chance follows from a short rule, and is the same each time.
type chance uint64

func (c *chance) below(n int) int {
	*c = *c*6364136223846793005 + 1442695040888963407
	return int(uint64(*c>>33) % uint64(n))
}

// plain is a slab told otherwise: of each page its class, or -1, and a flag for each of its words that a taken block has; and the free pages, the one that is taken next last.
type plain struct {
	base  int
	class []int
	held  []uint16
	free  []int
}

// plainNew is one of which nothing is taken.
func plainNew(base, pages int) *plain {
	q := &plain{base: base}
	for page := range pages {
		q.class, q.held = append(q.class, -1), append(q.held, 0)
		q.free = append(q.free, pages-1-page)
	}
	return q
}

// somePlain is any one of at most so many pages, anywhere, whose free pages stand in any order.
func (c *chance) somePlain(most int) *plain {
	pages := c.below(most + 1)
	q := plainNew(16*c.below(257-pages), pages)
	q.free = nil
	for page := range pages {
		if c.below(3) == 0 {
			q.free = slices.Insert(q.free, c.below(len(q.free)+1), page)
			continue
		}
		class := c.below(4)
		q.class[page] = class
		many := 16 / wide()[class]
		sure := c.below(many)
		for n := range many {
			if n == sure || c.below(2) == 0 {
				q.held[page] |= mask(class, n)
			}
		}
	}
	return q
}

// wide are the words of the classes.
func wide() [4]int { return [4]int{2, 4, 8, 16} }

// mask has a flag for each word of a page that its n-th block of a class has.
func mask(class, n int) uint16 {
	w := wide()[class]
	return uint16((1<<w - 1) << (n * w))
}

// copy is q in memory of its own.
func (q *plain) copy() *plain {
	return &plain{q.base, slices.Clone(q.class), slices.Clone(q.held), slices.Clone(q.free)}
}

// alloc takes a block.
func (q *plain) alloc(class int) (api.Block, api.Errno) {
	if class < 0 || class > 3 {
		return api.Block{}, api.ErrArg
	}
	w := wide()[class]
	for page := range q.class {
		for n := 0; q.class[page] == class && n*w < 16; n++ {
			if q.held[page]&mask(class, n) == 0 {
				q.held[page] |= mask(class, n)
				return api.Block{At: q.base + 16*page + n*w, Class: class}, api.OK
			}
		}
	}
	if len(q.free) == 0 {
		return api.Block{}, api.ErrFull
	}
	page := q.free[len(q.free)-1]
	q.free = q.free[:len(q.free)-1]
	q.class[page], q.held[page] = class, mask(class, 0)
	return api.Block{At: q.base + 16*page, Class: class}, api.OK
}

// where is the page of a block, and the words that it has there.
func (q *plain) where(b api.Block) (int, uint16, api.Errno) {
	if b.Class < 0 || b.Class > 3 || b.At < 0 || b.At >= 4096 || b.At%wide()[b.Class] != 0 {
		return 0, 0, api.ErrBlock
	}
	for page, class := range q.class {
		from := b.At - (q.base + 16*page)
		if from >= 0 && from < 16 && class == b.Class {
			return page, mask(class, from/wide()[class]), api.OK
		}
	}
	return 0, 0, api.ErrNone
}

// give frees blocks; with an error nothing is changed.
func (q *plain) give(l []api.Block) api.Errno {
	r := q.copy()
	for _, b := range l {
		page, words, errno := r.where(b)
		if errno != api.OK {
			return errno
		}
		if r.held[page]&words == 0 {
			return api.ErrThere
		}
		r.held[page] &^= words
		if r.held[page] == 0 {
			r.free = append(r.free, page)
		}
	}
	for page := range r.class {
		if r.held[page] == 0 {
			r.class[page] = -1
		}
	}
	*q = *r
	return api.OK
}

// slab is q as a slab.
func (q *plain) slab() api.Slab {
	s := api.Slab{Pool: api.Pool{Base: q.base, Pages: len(q.class), Free: slices.Clone(q.free)}}
	for page, class := range q.class {
		if class < 0 {
			continue
		}
		cut := api.Cut{Page: page, Class: class}
		for n := 0; n*wide()[class] < 16; n++ {
			if q.held[page]&mask(class, n) == 0 {
				cut.Free = append(cut.Free, n)
			}
		}
		s.Cuts = append(s.Cuts, cut)
	}
	return s
}

// taken are the blocks that are taken, by At.
func (q *plain) taken() []api.Block {
	var l []api.Block
	for at := q.base; at < q.base+16*len(q.class); at++ {
		for class := range 4 {
			b := api.Block{At: at, Class: class}
			if page, words, errno := q.where(b); errno == api.OK && q.held[page]&words != 0 {
				l = append(l, b)
			}
		}
	}
	return l
}

// near are blocks in the pages of q and beside them, of each class, and such as may not be.
func (q *plain) near() []api.Block {
	var l []api.Block
	for at := q.base - 16; at < q.base+16*len(q.class)+16; at++ {
		for class := -1; class < 5; class++ {
			l = append(l, api.Block{At: at, Class: class})
		}
	}
	return l
}

// edges are numbers that are often none of a class, a page, or a place.
func edges() []int {
	return []int{math.MinInt, math.MinInt + 1, -1 << 60, -1 << 32, -4096, -256, -64, -16, -2, -1, 64, 256, 4096, 4097, 4112, 1 << 32, 1<<32 + 1, 1 << 60, math.MaxInt - 15, math.MaxInt - 1, math.MaxInt}
}

// noClasses are numbers of no class.
func noClasses() []int { return append(edges(), 4, 5, 8, 16) }

// noBlocks are some that may not be.
func noBlocks() []api.Block {
	l := []api.Block{{At: 1}, {At: 33}, {At: 34, Class: 1}, {At: 36, Class: 2}, {At: 40, Class: 3}, {At: 4095}, {At: 4096}, {At: 4096, Class: 3}, {At: -16, Class: 3}, {At: -2}}
	for _, n := range noClasses() {
		l = append(l, api.Block{Class: n}, api.Block{At: 32, Class: n})
	}
	for _, n := range edges() {
		if n < 0 || n > 4095 {
			l = append(l, api.Block{At: n}, api.Block{At: n, Class: 3})
		}
	}
	return l
}

// down are the numbers below n, falling.
func down(n int) []int {
	var l []int
	for i := n - 1; i >= 0; i-- {
		l = append(l, i)
	}
	return l
}

// sound is a slab that may be, of which the pages 0, 1 and 3 are taken.
func sound() api.Slab {
	return api.Slab{
		Pool: api.Pool{Base: 32, Pages: 4, Free: []int{2}},
		Cuts: []api.Cut{{Page: 0, Class: 1, Free: []int{1, 2}}, {Page: 1, Class: 3}, {Page: 3, Class: 0, Free: []int{0, 1, 2, 4, 5, 6, 7}}},
	}
}

// changed is the sound slab with one change.
func changed(change func(*api.Slab)) api.Slab {
	s := sound()
	change(&s)
	return s
}

// noSlabs are some that may not be, each for one cause alone.
func noSlabs() []api.Slab {
	var l []api.Slab
	for _, p := range []api.Pool{{Base: -16}, {Base: 8}, {Base: 4112}, {Pages: -1}, {Pages: 65}, {Free: []int{0}}, {Base: 4096, Pages: 1, Free: []int{0}}, {Pages: 2, Free: []int{1, 0, 1}}, {Pages: 2, Free: []int{2, 1, 0}}} {
		l = append(l, api.Slab{Pool: p})
	}
	for _, base := range append(edges(), 1, 8, 31, 40, 4048) {
		if base != 64 && base != 256 {
			l = append(l, changed(func(s *api.Slab) { s.Pool.Base = base }))
		}
	}
	for _, pages := range append(edges(), 0, 3, 5) {
		l = append(l, changed(func(s *api.Slab) { s.Pool.Pages = pages }))
	}
	for _, free := range [][]int{nil, {0}, {3}, {2, 0}, {2, 2}, {2, 4}, {-1}, {4}} {
		l = append(l, changed(func(s *api.Slab) { s.Pool.Free = free }))
	}
	return append(append(l, noCuts()...), noFrees()...)
}

// noCuts are slabs whose cuts are not those of the taken pages, or of no class.
func noCuts() []api.Slab {
	var l []api.Slab
	for i := range 3 {
		l = append(l, changed(func(s *api.Slab) { s.Cuts = slices.Delete(s.Cuts, i, i+1) }))
		l = append(l, changed(func(s *api.Slab) { s.Cuts = s.Cuts[:i] }))
		for _, page := range append(edges(), 2, 4) {
			l = append(l, changed(func(s *api.Slab) { s.Cuts[i].Page = page }))
		}
		for j := range 4 {
			l = append(l, changed(func(s *api.Slab) { s.Cuts = slices.Insert(s.Cuts, j, api.Cut{Page: i, Class: 3}) }))
			l = append(l, changed(func(s *api.Slab) { s.Cuts = slices.Insert(s.Cuts, j, api.Cut{Page: 3, Class: i}) }))
		}
		for _, class := range noClasses() {
			l = append(l, changed(func(s *api.Slab) { s.Cuts[i].Class = class }))
			l = append(l, changed(func(s *api.Slab) { s.Cuts[i] = api.Cut{Page: s.Cuts[i].Page, Class: class} }))
		}
		l = append(l, changed(func(s *api.Slab) { s.Cuts[i], s.Cuts[(i+1)%3] = s.Cuts[(i+1)%3], s.Cuts[i] }))
	}
	return append(l,
		changed(func(s *api.Slab) { slices.Reverse(s.Cuts) }),
		changed(func(s *api.Slab) { s.Cuts = append(s.Cuts, api.Cut{Page: 2, Class: 3}) }),
		changed(func(s *api.Slab) { s.Cuts = slices.Insert(s.Cuts, 2, api.Cut{Page: 2, Class: 3}) }),
		changed(func(s *api.Slab) { s.Cuts = append(s.Cuts, api.Cut{Page: 4, Class: 3}) }),
		changed(func(s *api.Slab) { s.Cuts = make([]api.Cut, 10000) }),
		api.Slab{Cuts: []api.Cut{{Class: 3}}},
		api.Slab{Pool: api.Pool{Pages: 1, Free: []int{0}}, Cuts: []api.Cut{{Class: 3}}},
		api.Slab{Pool: api.Pool{Pages: 1}},
	)
}

// noFrees are slabs in which what is free of a cut may not be.
func noFrees() []api.Slab {
	var l []api.Slab
	for class, w := range wide() {
		many := 16 / w
		all := down(many)
		slices.Reverse(all)
		wrong := [][]int{all, append(slices.Clone(all), many), make([]int, 10000)}
		for _, n := range append(edges(), many, many+1) {
			wrong = append(wrong, []int{n})
			if many > 2 {
				wrong = append(wrong, []int{n, 1}, []int{0, n})
			}
		}
		for n := range many - 1 {
			wrong = append(wrong, []int{n, n}, []int{n + 1, n})
		}
		if many == 8 {
			wrong = append(wrong, []int{0, 2, 1}, []int{0, 1, 1}, []int{2, 0, 1}, []int{7, 6, 5, 4}, []int{1, 2, 3, 4, 5, 6, 1}, []int{0, 1, 2, 3, 4, 5, 8})
		}
		for _, free := range wrong {
			for i := range 3 {
				l = append(l, changed(func(s *api.Slab) { s.Cuts[i] = api.Cut{Page: s.Cuts[i].Page, Class: class, Free: free} }))
			}
		}
	}
	return l
}

// empty says whether s is the zero value.
func empty(s api.Slab) bool {
	return s.Pool.Base == 0 && s.Pool.Pages == 0 && len(s.Pool.Free) == 0 && len(s.Cuts) == 0
}

// alike says whether two slabs are one.
func alike(a, b api.Slab) bool {
	if a.Pool.Base != b.Pool.Base || a.Pool.Pages != b.Pool.Pages || !slices.Equal(a.Pool.Free, b.Pool.Free) || len(a.Cuts) != len(b.Cuts) {
		return false
	}
	for i, c := range a.Cuts {
		if d := b.Cuts[i]; c.Page != d.Page || c.Class != d.Class || !slices.Equal(c.Free, d.Free) {
			return false
		}
	}
	return true
}

// roomy is l with room behind its end, and something there.
func roomy[T any](l []T, there T) []T {
	return append(slices.Clone(l), slices.Repeat([]T{there}, 9)...)[:len(l)]
}

// given is s, each list of which has room behind its end, in memory of its own.
func given(s api.Slab) api.Slab {
	s.Pool.Free = roomy(s.Pool.Free, 55)
	s.Cuts = roomy(s.Cuts, api.Cut{Page: 55, Class: 55})
	for i := range s.Cuts[:cap(s.Cuts)] {
		c := &s.Cuts[:cap(s.Cuts)][i]
		c.Free = roomy(c.Free, 55)
	}
	return s
}

// all is s, each list with the room behind it, in memory of its own.
func all(s api.Slab) api.Slab {
	s.Pool.Free = slices.Clone(s.Pool.Free[:cap(s.Pool.Free)])
	s.Cuts = slices.Clone(s.Cuts[:cap(s.Cuts)])
	for i, c := range s.Cuts {
		s.Cuts[i].Free = slices.Clone(c.Free[:cap(c.Free)])
	}
	return s
}

// scrub writes over all lists of s, and the room behind them.
func scrub(s api.Slab, with int) {
	fill := func(l []int) {
		for i := range l[:cap(l)] {
			l[:cap(l)][i] = with
		}
	}
	fill(s.Pool.Free)
	for i, c := range s.Cuts[:cap(s.Cuts)] {
		fill(c.Free)
		s.Cuts[:cap(s.Cuts)][i] = api.Cut{Page: with, Class: with}
	}
}

// mustStandAlone fails if two lists of s share memory.
func mustStandAlone(t *testing.T, s api.Slab) {
	t.Helper()
	lists := [][]int{s.Pool.Free}
	for _, c := range s.Cuts {
		lists = append(lists, c.Free)
	}
	seen := map[*int]int{}
	for i, l := range lists {
		for j := range l[:cap(l)] {
			if other, had := seen[&l[:cap(l)][j]]; had && other != i {
				t.Fatalf("of %v two lists share memory: %d and %d", s, other, i)
			}
			seen[&l[:cap(l)][j]] = i
		}
	}
}

// mustAlloc takes a block.
func mustAlloc(t *testing.T, s api.Slab, class int) (api.Slab, api.Block) {
	t.Helper()
	u, b, e := slab.Alloc(s, class)
	if e != api.OK {
		t.Fatalf("Alloc(%v, %d): %d", s, class, e)
	}
	return u, b
}

// mustFree frees blocks.
func mustFree(t *testing.T, s api.Slab, l ...api.Block) api.Slab {
	t.Helper()
	u, e := slab.Free(s, l...)
	if e != api.OK {
		t.Fatalf("Free(%v, %v): %d", s, l, e)
	}
	return u
}

// mustNew makes a slab.
func mustNew(t *testing.T, base, pages int) api.Slab {
	t.Helper()
	s, e := slab.New(base, pages)
	if e != api.OK {
		t.Fatalf("New(%d, %d): %d", base, pages, e)
	}
	return s
}
