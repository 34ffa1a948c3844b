package slab_test

import (
	"slices"
	"testing"

	"afterglow/api"
	"afterglow/slab"
)

// P9.4: the blocks that are taken, their words, and the room there is, written out.
func TestTold(t *testing.T) {
	s := sound()
	if l := slab.Taken(s); !slices.Equal(l, []api.Block{{At: 32, Class: 1}, {At: 44, Class: 1}, {At: 48, Class: 3}, {At: 86}}) {
		t.Errorf("Taken(%v): %v", s, l)
	}
	if had, besides := slab.Words(s); had != 26 || besides != 38 {
		t.Errorf("Words(%v): %d, %d", s, had, besides)
	}
	for class, want := range []int{15, 6, 2, 1} {
		if n := slab.Room(s, class); n != want {
			t.Errorf("Room(%v, %d): %d, not %d", s, class, n, want)
		}
	}
	for _, c := range []struct {
		b    api.Block
		want bool
	}{
		{api.Block{At: 32, Class: 1}, true},
		{api.Block{At: 44, Class: 1}, true},
		{api.Block{At: 48, Class: 3}, true},
		{api.Block{At: 86}, true},
		{api.Block{At: 36, Class: 1}, false},
		{api.Block{At: 40, Class: 1}, false},
		{api.Block{At: 32}, false},
		{api.Block{At: 32, Class: 3}, false},
		{api.Block{At: 48, Class: 2}, false},
		{api.Block{At: 84}, false},
		{api.Block{At: 84, Class: 1}, false},
		{api.Block{At: 64, Class: 3}, false},
		{api.Block{At: 16, Class: 3}, false},
		{api.Block{At: 96, Class: 3}, false},
	} {
		if got := slab.Is(s, c.b); got != c.want {
			t.Errorf("Is(%v, %v): %v", s, c.b, got)
		}
	}
}

// P9.4: of no pages, of a slab of which nothing is taken, and of one of which all is.
func TestToldEdges(t *testing.T) {
	for _, s := range []api.Slab{{}, {Pool: api.Pool{Base: 4096}}, mustNew(t, 16, 3), mustNew(t, 3072, 64)} {
		had, besides := slab.Words(s)
		if l := slab.Taken(s); len(l) != 0 || had != 0 || besides != 16*s.Pool.Pages {
			t.Errorf("Taken, Words of %v: %v, %d, %d", s, l, had, besides)
		}
		for class, w := range wide() {
			if n := slab.Room(s, class); n != 16/w*s.Pool.Pages {
				t.Errorf("Room(%v, %d): %d", s, class, n)
			}
		}
	}
	s := mustNew(t, 3072, 64)
	for range 512 {
		s, _ = mustAlloc(t, s, 0)
	}
	had, besides := slab.Words(s)
	if l := slab.Taken(s); len(l) != 512 || l[0] != (api.Block{At: 3072}) || l[511] != (api.Block{At: 4094}) || had != 1024 || besides != 0 {
		t.Errorf("Taken, Words of all: %v, %d, %d", l, had, besides)
	}
	for class := range 4 {
		if n := slab.Room(s, class); n != 0 {
			t.Errorf("Room(all, %d): %d", class, n)
		}
	}
}

// P9.4: there is no room for what is no class, and what may not be is not taken.
func TestToldWrong(t *testing.T) {
	for _, s := range []api.Slab{{}, sound(), mustNew(t, 0, 64)} {
		for _, class := range noClasses() {
			if n := slab.Room(s, class); n != 0 {
				t.Errorf("Room(%v, %d): %d", s, class, n)
			}
		}
		for _, b := range noBlocks() {
			if slab.Is(s, b) {
				t.Errorf("Is(%v, %v)", s, b)
			}
		}
	}
}

// P9.4: any slab, as it is told otherwise: each block in and beside its pages, and what it has, and has room for.
func TestToldPlain(t *testing.T) {
	var c chance
	for range 600 {
		q := c.somePlain(7)
		s := q.slab()
		taken := q.taken()
		if l := slab.Taken(s); !slices.Equal(l, taken) {
			t.Fatalf("Taken(%v): %v, not %v", s, l, taken)
		}
		for _, b := range q.near() {
			if got := slab.Is(s, b); got != slices.Contains(taken, b) {
				t.Fatalf("Is(%v, %v): %v", s, b, got)
			}
		}
		want := 0
		for _, b := range taken {
			want += wide()[b.Class]
		}
		if had, besides := slab.Words(s); had != want || had+besides != 16*len(q.class) {
			t.Fatalf("Words(%v): %d, %d, not %d", s, had, besides, want)
		}
		for class := range 4 {
			r, many := q.copy(), 0
			for {
				if _, e := r.alloc(class); e != api.OK {
					break
				}
				many++
			}
			if n := slab.Room(s, class); n != many {
				t.Fatalf("Room(%v, %d): %d, not %d", s, class, n, many)
			}
		}
	}
}

// P9.4: what is asked of stays as it is, the room behind it, too, and what is told is new each time.
func TestToldApart(t *testing.T) {
	var c chance
	for range 200 {
		s := given(c.somePlain(6).slab())
		before := all(s)
		first, second := slab.Taken(s), slab.Taken(s)
		slab.Check(s)
		slab.Same(s, s)
		slab.Words(s)
		slab.Room(s, c.below(4))
		slab.Is(s, api.Block{At: s.Pool.Base, Class: c.below(4)})
		if !alike(all(s), before) {
			t.Fatalf("%v is changed: %v", before, all(s))
		}
		want := slices.Clone(second)
		scrub(s, 70)
		for i := range first[:cap(first)] {
			first[:cap(first)][i] = api.Block{At: 71}
		}
		if !slices.Equal(second, want) {
			t.Fatalf("Taken is shared: %v, then %v", want, second)
		}
	}
}
