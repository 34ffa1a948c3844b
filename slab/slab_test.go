package slab_test

import (
	"slices"
	"testing"

	"afterglow/api"
	"afterglow/slab"
)

// P9.1: there is a slab of each multiple of 16 that leaves room for the pages, and of no other; its pages are free, the greatest number first, and nothing is cut.
func TestNew(t *testing.T) {
	for base := -40; base <= 4200; base++ {
		for pages := -2; pages <= 67; pages++ {
			s, e := slab.New(base, pages)
			if base < 0 || base%16 != 0 || pages < 0 || pages > 64 || base > 4096-16*pages {
				if e != api.ErrArg || !empty(s) {
					t.Fatalf("New(%d, %d): %v, %d", base, pages, s, e)
				}
				continue
			}
			want := api.Slab{Pool: api.Pool{Base: base, Pages: pages, Free: down(pages)}}
			if e != api.OK || !alike(s, want) {
				t.Fatalf("New(%d, %d): %v, %d", base, pages, s, e)
			}
		}
	}
	for _, n := range edges() {
		if s, e := slab.New(0, n); n != 64 && (e != api.ErrArg || !empty(s)) {
			t.Errorf("New(0, %d): %v, %d", n, s, e)
		}
		if s, e := slab.New(n, 1); n != 64 && n != 256 && (e != api.ErrArg || !empty(s)) {
			t.Errorf("New(%d, 1): %v, %d", n, s, e)
		}
	}
}

// P9.1: slabs that are asked for twice share nothing.
func TestNewIsNew(t *testing.T) {
	a, b := mustNew(t, 32, 5), mustNew(t, 32, 5)
	scrub(a, 9)
	if !slices.Equal(b.Pool.Free, down(5)) {
		t.Errorf("New shares its list: %v", b)
	}
}

// P9.1: a slab may be with cuts of its taken pages, rising, whose free numbers rise, and are not all.
func TestCheck(t *testing.T) {
	var c chance
	for range 3000 {
		if s := c.somePlain(64).slab(); slab.Check(s) != api.OK {
			t.Fatalf("Check(%v): %d", s, slab.Check(s))
		}
	}
	for _, s := range []api.Slab{
		{},
		{Cuts: []api.Cut{}},
		{Pool: api.Pool{Base: 4096}},
		{Pool: api.Pool{Base: 4080, Pages: 1}, Cuts: []api.Cut{{Class: 3}}},
		{Pool: api.Pool{Base: 4080, Pages: 1}, Cuts: []api.Cut{{Class: 2, Free: []int{1}}}},
		{Pool: api.Pool{Pages: 2, Free: []int{0}}, Cuts: []api.Cut{{Page: 1, Free: []int{1, 2, 3, 4, 5, 6, 7}}}},
		{Pool: api.Pool{Pages: 2}, Cuts: []api.Cut{{}, {Page: 1, Class: 1, Free: []int{0, 3}}}},
		sound(),
	} {
		if e := slab.Check(s); e != api.OK {
			t.Errorf("Check(%v): %d", s, e)
		}
	}
	for _, s := range noSlabs() {
		if e := slab.Check(s); e != api.ErrSlab {
			t.Errorf("Check(%v): %d", s, e)
		}
	}
}

// P9.1: of each class just those rows of free numbers may be that rise and are not all.
func TestCheckFree(t *testing.T) {
	for class, w := range wide() {
		many := 16 / w
		var check func(free []int)
		check = func(free []int) {
			may := len(free) < many
			for i, n := range free {
				may = may && n >= 0 && n < many && (i == 0 || free[i-1] < n)
			}
			want := api.ErrSlab
			if may {
				want = api.OK
			}
			s := api.Slab{Pool: api.Pool{Pages: 1}, Cuts: []api.Cut{{Class: class, Free: free}}}
			if e := slab.Check(s); e != want {
				t.Fatalf("Check(%v): %d", s, e)
			}
			if len(free) < 4 {
				for n := -1; n <= many; n++ {
					check(append(slices.Clone(free), n))
				}
			}
		}
		check(nil)
	}
}

// P9.1: two slabs are the same if each part is; nil and empty are one; also of those that may not be.
func TestSame(t *testing.T) {
	others := append(noSlabs(),
		api.Slab{},
		changed(func(s *api.Slab) { s.Pool.Base = 48 }),
		changed(func(s *api.Slab) { s.Cuts[0].Class = 0 }),
		changed(func(s *api.Slab) { s.Cuts[1].Class = 2 }),
		changed(func(s *api.Slab) { s.Cuts[0].Free = []int{1} }),
		changed(func(s *api.Slab) { s.Cuts[0].Free = []int{2} }),
		changed(func(s *api.Slab) { s.Cuts[0].Free = []int{1, 3} }),
		changed(func(s *api.Slab) { s.Cuts[0].Free = []int{0, 1, 2} }),
		changed(func(s *api.Slab) { s.Cuts[0].Free = nil }),
		changed(func(s *api.Slab) { s.Cuts[2].Free = []int{0, 1, 2, 3, 4, 5, 6} }),
	)
	if !slab.Same(sound(), sound()) {
		t.Error("a slab is not the same as a copy")
	}
	for _, s := range others {
		if slab.Same(s, sound()) || slab.Same(sound(), s) {
			t.Errorf("%v is the same as %v", s, sound())
		}
	}
	for i, a := range others {
		for _, b := range others[max(0, i-5):] {
			if got := slab.Same(a, b); got != alike(a, b) {
				t.Errorf("Same(%v, %v): %v", a, b, got)
			}
		}
	}
	bare := changed(func(s *api.Slab) { s.Cuts[1].Free = []int{} })
	if !slab.Same(bare, sound()) || !slab.Same(sound(), bare) || !slab.Same(api.Slab{}, api.Slab{Pool: api.Pool{Free: []int{}}, Cuts: []api.Cut{}}) {
		t.Error("nil and empty are not the same")
	}
}

// P9.1: two slabs whose pools differ in the order of Free alone are two.
func TestSamePool(t *testing.T) {
	a := api.Slab{Pool: api.Pool{Pages: 2, Free: []int{0, 1}}}
	b := api.Slab{Pool: api.Pool{Pages: 2, Free: []int{1, 0}}}
	if slab.Same(a, b) || !slab.Same(a, a) || !slab.Same(b, b) {
		t.Errorf("Same(%v, %v)", a, b)
	}
}

// P9.2 to P9.4: what may not be has ErrSlab ahead of all else, and nothing is told of it.
func TestNoSlabs(t *testing.T) {
	rows := [][]api.Block{nil, {}, {{At: 32, Class: 1}}, {{At: 48, Class: 3}}, {{At: 36, Class: 1}}, {{At: 1}}, {{At: 0}}, {{At: 32, Class: 9}, {At: 32, Class: 1}}}
	for _, s := range noSlabs() {
		for _, class := range append(noClasses(), 0, 1, 2, 3) {
			if u, b, e := slab.Alloc(s, class); e != api.ErrSlab || b != (api.Block{}) || !empty(u) {
				t.Fatalf("Alloc(%v, %d): %v, %v, %d", s, class, u, b, e)
			}
			if n := slab.Room(s, class); n != 0 {
				t.Fatalf("Room(%v, %d): %d", s, class, n)
			}
		}
		for _, l := range rows {
			if u, e := slab.Free(s, l...); e != api.ErrSlab || !empty(u) {
				t.Fatalf("Free(%v, %v): %v, %d", s, l, u, e)
			}
			for _, b := range l {
				if slab.Is(s, b) {
					t.Fatalf("Is(%v, %v)", s, b)
				}
			}
		}
		if l := slab.Taken(s); len(l) != 0 {
			t.Fatalf("Taken(%v): %v", s, l)
		}
		if a, b := slab.Words(s); a != 0 || b != 0 {
			t.Fatalf("Words(%v): %d, %d", s, a, b)
		}
	}
}
