package slab_test

import (
	"slices"
	"testing"

	"afterglow/api"
	"afterglow/slab"
)

// P9.2: a block comes of the first cut of its class that has one, and is that cut's first; else of the page that the pool gives next.
func TestAlloc(t *testing.T) {
	for _, c := range []struct {
		class int
		b     api.Block
		want  api.Slab
	}{
		{0, api.Block{At: 80}, changed(func(s *api.Slab) { s.Cuts[2].Free = []int{1, 2, 4, 5, 6, 7} })},
		{1, api.Block{At: 36, Class: 1}, changed(func(s *api.Slab) { s.Cuts[0].Free = []int{2} })},
		{2, api.Block{At: 64, Class: 2}, changed(func(s *api.Slab) {
			s.Pool.Free = nil
			s.Cuts = slices.Insert(s.Cuts, 2, api.Cut{Page: 2, Class: 2, Free: []int{1}})
		})},
		{3, api.Block{At: 64, Class: 3}, changed(func(s *api.Slab) {
			s.Pool.Free = nil
			s.Cuts = slices.Insert(s.Cuts, 2, api.Cut{Page: 2, Class: 3})
		})},
	} {
		if s, b, e := slab.Alloc(sound(), c.class); e != api.OK || b != c.b || !alike(s, c.want) {
			t.Errorf("Alloc(%v, %d): %v, %v, %d", sound(), c.class, s, b, e)
		}
	}
}

// P9.2: of several cuts of a class with free blocks it is the first one, whatever stands ahead of it, and however few it has.
func TestAllocFirst(t *testing.T) {
	s := api.Slab{Pool: api.Pool{Base: 160, Pages: 6, Free: []int{4}}, Cuts: []api.Cut{
		{Page: 0, Class: 2, Free: []int{0}},
		{Page: 1, Class: 1},
		{Page: 2, Class: 1, Free: []int{3}},
		{Page: 3, Class: 1, Free: []int{0, 1, 2}},
		{Page: 5, Class: 1, Free: []int{1}},
	}}
	for i, want := range []int{204, 208, 212, 216, 244, 224, 228, 232, 236} {
		var b api.Block
		if s, b = mustAlloc(t, s, 1); b != (api.Block{At: want, Class: 1}) {
			t.Fatalf("the block %d is %v, not at %d", i, b, want)
		}
	}
	if _, _, e := slab.Alloc(s, 1); e != api.ErrFull {
		t.Errorf("Alloc(%v, 1): %d", s, e)
	}
	if _, b := mustAlloc(t, s, 2); b != (api.Block{At: 160, Class: 2}) {
		t.Errorf("Alloc(%v, 2): %v", s, b)
	}
}

// P9.2: pages come as the pool gives them, and their cuts stand by their numbers.
func TestAllocPages(t *testing.T) {
	s := api.Slab{Pool: api.Pool{Base: 4032, Pages: 4, Free: []int{0, 3, 1, 2}}}
	for i, page := range []int{2, 1, 3, 0} {
		var b api.Block
		if s, b = mustAlloc(t, s, i); b != (api.Block{At: 4032 + 16*page, Class: i}) {
			t.Fatalf("Alloc(.., %d): %v, not in the page %d", i, b, page)
		}
	}
	want := api.Slab{Pool: api.Pool{Base: 4032, Pages: 4}, Cuts: []api.Cut{
		{Page: 0, Class: 3},
		{Page: 1, Class: 1, Free: []int{1, 2, 3}},
		{Page: 2, Class: 0, Free: []int{1, 2, 3, 4, 5, 6, 7}},
		{Page: 3, Class: 2, Free: []int{1}},
	}}
	if !alike(s, want) {
		t.Errorf("%v, not %v", s, want)
	}
}

// P9.2: ErrArg for no class, ahead of ErrFull; ErrFull if no cut of the class has a free block, and no page is free, though other classes have room.
func TestAllocErrors(t *testing.T) {
	full := api.Slab{Pool: api.Pool{Pages: 2}, Cuts: []api.Cut{{Page: 0, Class: 3}, {Page: 1, Class: 1, Free: []int{2}}}}
	for _, s := range []api.Slab{{}, sound(), full, {Pool: api.Pool{Pages: 1, Free: []int{0}}}} {
		for _, class := range noClasses() {
			if u, b, e := slab.Alloc(s, class); e != api.ErrArg || b != (api.Block{}) || !empty(u) {
				t.Errorf("Alloc(%v, %d): %v, %v, %d", s, class, u, b, e)
			}
		}
	}
	for class := range 4 {
		if u, b, e := slab.Alloc(api.Slab{}, class); e != api.ErrFull || b != (api.Block{}) || !empty(u) {
			t.Errorf("Alloc of no pages: %v, %v, %d", u, b, e)
		}
		if u, b, e := slab.Alloc(full, class); class != 1 && (e != api.ErrFull || b != (api.Block{}) || !empty(u)) {
			t.Errorf("Alloc(%v, %d): %v, %v, %d", full, class, u, b, e)
		}
	}
}

// P9.3: freed blocks stand among the free ones by their numbers; a cut that has no taken one goes, and its page stands behind the others of the pool.
func TestFree(t *testing.T) {
	for _, c := range []struct {
		l    []api.Block
		want api.Slab
	}{
		{nil, sound()},
		{[]api.Block{}, sound()},
		{[]api.Block{{At: 32, Class: 1}}, changed(func(s *api.Slab) { s.Cuts[0].Free = []int{0, 1, 2} })},
		{[]api.Block{{At: 44, Class: 1}}, changed(func(s *api.Slab) { s.Cuts[0].Free = []int{1, 2, 3} })},
		{[]api.Block{{At: 44, Class: 1}, {At: 32, Class: 1}}, changed(func(s *api.Slab) {
			s.Pool.Free, s.Cuts = []int{2, 0}, s.Cuts[1:]
		})},
		{[]api.Block{{At: 48, Class: 3}}, changed(func(s *api.Slab) {
			s.Pool.Free, s.Cuts = []int{2, 1}, slices.Delete(s.Cuts, 1, 2)
		})},
		{[]api.Block{{At: 86}}, changed(func(s *api.Slab) { s.Pool.Free, s.Cuts = []int{2, 3}, s.Cuts[:2] })},
		{[]api.Block{{At: 86}, {At: 32, Class: 1}}, changed(func(s *api.Slab) {
			s.Pool.Free, s.Cuts = []int{2, 3}, s.Cuts[:2]
			s.Cuts[0].Free = []int{0, 1, 2}
		})},
	} {
		if s, e := slab.Free(sound(), c.l...); e != api.OK || !alike(s, c.want) {
			t.Errorf("Free(%v, %v): %v, %d, not %v", sound(), c.l, s, e, c.want)
		}
	}
}

// P9.3: pages are given back in the order in which the row comes to their last taken blocks.
func TestFreePages(t *testing.T) {
	a, b, c, d := api.Block{At: 32, Class: 1}, api.Block{At: 44, Class: 1}, api.Block{At: 48, Class: 3}, api.Block{At: 86}
	for _, x := range []struct {
		l    []api.Block
		free []int
	}{
		{[]api.Block{a, b, c, d}, []int{2, 0, 1, 3}},
		{[]api.Block{d, c, b, a}, []int{2, 3, 1, 0}},
		{[]api.Block{a, c, b, d}, []int{2, 1, 0, 3}},
		{[]api.Block{b, d, a, c}, []int{2, 3, 0, 1}},
		{[]api.Block{c, a, d, b}, []int{2, 1, 3, 0}},
	} {
		want := api.Slab{Pool: api.Pool{Base: 32, Pages: 4, Free: x.free}}
		if s, e := slab.Free(sound(), x.l...); e != api.OK || !alike(s, want) {
			t.Errorf("Free(%v, %v): %v, %d, not %v", sound(), x.l, s, e, want)
		}
	}
}

// P9.3: of the first block that has an error, it is told; a block that the row has twice is free the second time, also if its cut has no taken one any more.
func TestFreeErrors(t *testing.T) {
	good, whole, last := api.Block{At: 32, Class: 1}, api.Block{At: 48, Class: 3}, api.Block{At: 86}
	bad, none, there := api.Block{At: 33, Class: 1}, api.Block{At: 64, Class: 3}, api.Block{At: 36, Class: 1}
	for _, c := range []struct {
		l    []api.Block
		want api.Errno
	}{
		{[]api.Block{bad}, api.ErrBlock},
		{[]api.Block{none}, api.ErrNone},
		{[]api.Block{there}, api.ErrThere},
		{[]api.Block{bad, none, there}, api.ErrBlock},
		{[]api.Block{none, there, bad}, api.ErrNone},
		{[]api.Block{there, bad, none}, api.ErrThere},
		{[]api.Block{good, bad}, api.ErrBlock},
		{[]api.Block{good, none, bad}, api.ErrNone},
		{[]api.Block{good, whole, there}, api.ErrThere},
		{[]api.Block{good, good}, api.ErrThere},
		{[]api.Block{whole, whole}, api.ErrThere},
		{[]api.Block{last, last}, api.ErrThere},
		{[]api.Block{last, {At: 80}}, api.ErrThere},
		{[]api.Block{last, whole, good, whole}, api.ErrThere},
		{[]api.Block{last, whole, good, last, bad}, api.ErrThere},
		{[]api.Block{good, good, bad}, api.ErrThere},
		{[]api.Block{good, bad, good}, api.ErrBlock},
		{[]api.Block{whole, none, whole}, api.ErrNone},
		{[]api.Block{whole, {At: 48, Class: 2}}, api.ErrNone},
	} {
		if s, e := slab.Free(sound(), c.l...); e != c.want || !empty(s) {
			t.Errorf("Free(%v, %v): %v, %d, not %d", sound(), c.l, s, e, c.want)
		}
	}
	if s, e := slab.Free(sound(), slices.Repeat([]api.Block{good}, 100000)...); e != api.ErrThere || !empty(s) {
		t.Errorf("Free of one block, again and again: %v, %d", s, e)
	}
}

// P9.3: what may not be; what is in no page, in a free one, or in one that is cut for another class.
func TestFreeWrong(t *testing.T) {
	for _, b := range noBlocks() {
		for _, s := range []api.Slab{{}, sound()} {
			if u, e := slab.Free(s, b); e != api.ErrBlock || !empty(u) {
				t.Errorf("Free(%v, %v): %v, %d", s, b, u, e)
			}
		}
	}
	for _, b := range []api.Block{{}, {At: 16, Class: 3}, {At: 30}, {At: 64}, {At: 64, Class: 3}, {At: 72, Class: 2}, {At: 96}, {At: 96, Class: 3}, {At: 4080, Class: 3}, {At: 32}, {At: 32, Class: 2}, {At: 32, Class: 3}, {At: 44}, {At: 48}, {At: 48, Class: 2}, {At: 80, Class: 1}, {At: 84, Class: 1}} {
		if u, e := slab.Free(sound(), b); e != api.ErrNone || !empty(u) {
			t.Errorf("Free(%v, %v): %v, %d", sound(), b, u, e)
		}
		if u, e := slab.Free(api.Slab{}, b); e != api.ErrNone || !empty(u) {
			t.Errorf("Free(no pages, %v): %v, %d", b, u, e)
		}
	}
}

// P9.2, P9.3: any slab, of which blocks are taken and freed, in rows of all kinds, as they are told otherwise.
func TestPlain(t *testing.T) {
	var c chance
	had := map[api.Errno]int{}
	for range 1500 {
		q := c.somePlain(5)
		s := q.slab()
		for range 12 {
			var u api.Slab
			var e, want api.Errno
			if c.below(3) == 0 {
				class := c.below(6) - 1
				var b, wanted api.Block
				u, b, e = slab.Alloc(s, class)
				if wanted, want = q.alloc(class); b != wanted {
					t.Fatalf("Alloc(%v, %d): %v, not %v", s, class, b, wanted)
				}
			} else {
				l := c.someRow(q)
				u, e = slab.Free(s, l...)
				want = q.give(l)
			}
			had[e]++
			if e != want || e != api.OK && !empty(u) || e == api.OK && !alike(u, q.slab()) {
				t.Fatalf("%v comes to %v, %d, not %v, %d", s, u, e, q.slab(), want)
			}
			if e == api.OK {
				s = u
			}
		}
	}
	for _, e := range []api.Errno{api.OK, api.ErrArg, api.ErrFull, api.ErrBlock, api.ErrNone, api.ErrThere} {
		if had[e] < 100 {
			t.Errorf("%d is told %d times", e, had[e])
		}
	}
}

// someRow is a row of blocks, most of which are taken, of any order.
func (c *chance) someRow(q *plain) []api.Block {
	var l []api.Block
	near, taken := q.near(), q.taken()
	for range c.below(9) {
		if c.below(8) > 0 && len(taken) > 0 {
			at := c.below(len(taken))
			l = append(l, taken[at])
			if c.below(16) > 0 {
				taken = slices.Delete(taken, at, at+1)
			}
			continue
		}
		l = append(l, near[c.below(len(near))])
	}
	return l
}

// P9.2, P9.3: what is handed in stays as it is, the room behind it, too, and is not kept; no two lists of an answer share memory.
func TestChangesApart(t *testing.T) {
	var c chance
	for range 400 {
		q := c.somePlain(6)
		row := c.someRow(q)
		taken := q.taken()
		calls := []func(api.Slab, []api.Block) api.Slab{
			func(s api.Slab, _ []api.Block) api.Slab { u, _, _ := slab.Alloc(s, 0); return u },
			func(s api.Slab, _ []api.Block) api.Slab { u, _, _ := slab.Alloc(s, 3); return u },
			func(s api.Slab, l []api.Block) api.Slab { u, _ := slab.Free(s, l...); return u },
			func(s api.Slab, _ []api.Block) api.Slab { u, _ := slab.Free(s); return u },
			func(s api.Slab, _ []api.Block) api.Slab { u, _ := slab.Free(s, taken...); return u },
			func(s api.Slab, _ []api.Block) api.Slab { u, _ := slab.Free(s, taken[:len(taken)/2]...); return u },
		}
		for _, call := range calls {
			keepsApart(t, q.slab(), row, call)
		}
	}
}

// keepsApart asks a call twice of a slab and of blocks that have room, and fails if these change, or if what is answered shares memory with anything.
func keepsApart(t *testing.T, s api.Slab, l []api.Block, call func(api.Slab, []api.Block) api.Slab) {
	t.Helper()
	in, row := given(s), roomy(l, api.Block{At: 55, Class: 7})
	before, held := all(in), slices.Clone(row[:cap(row)])
	first := call(in, row)
	second := call(in, row)
	if !alike(all(in), before) || !slices.Equal(row[:cap(row)], held) {
		t.Fatalf("%v, %v is changed: %v, %v", before, held, all(in), row[:cap(row)])
	}
	mustStandAlone(t, second)
	want := all(second)
	scrub(in, 70)
	scrub(first, 71)
	for i := range row[:cap(row)] {
		row[:cap(row)][i] = api.Block{At: 72}
	}
	if !alike(all(second), want) {
		t.Fatalf("what is told of %v, %v is shared: %v, then %v", s, l, want, all(second))
	}
}

// P9.2, P9.3: from one slab several others come, and none of them hangs on what is done to another.
func TestBranches(t *testing.T) {
	s := sound()
	a, _ := mustAlloc(t, s, 1)
	b := mustFree(t, s, api.Block{At: 32, Class: 1})
	c, _ := mustAlloc(t, b, 1)
	d, at := mustAlloc(t, s, 1)
	f := mustFree(t, d, at)
	for i, x := range []struct {
		s    api.Slab
		want []int
	}{{s, []int{1, 2}}, {a, []int{2}}, {b, []int{0, 1, 2}}, {c, []int{1, 2}}, {d, []int{2}}, {f, []int{1, 2}}} {
		if !slices.Equal(x.s.Cuts[0].Free, x.want) {
			t.Errorf("of %d %v is free, not %v", i, x.s.Cuts[0].Free, x.want)
		}
	}
}
