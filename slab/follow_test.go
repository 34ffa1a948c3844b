package slab_test

import (
	"fmt"
	"slices"
	"testing"

	"afterglow/api"
	"afterglow/size"
	"afterglow/slab"
)

// reached are all slabs that come of one, by taking blocks of these classes, and freeing them.
func reached(t *testing.T, first api.Slab, classes ...int) []api.Slab {
	t.Helper()
	seen := map[string]bool{fmt.Sprint(first): true}
	l := []api.Slab{first}
	for i := 0; i < len(l); i++ {
		var behind []api.Slab
		for _, class := range classes {
			if u, _, e := slab.Alloc(l[i], class); e == api.OK {
				behind = append(behind, u)
			}
		}
		for _, b := range slab.Taken(l[i]) {
			behind = append(behind, mustFree(t, l[i], b))
		}
		for _, u := range behind {
			if name := fmt.Sprint(u); !seen[name] {
				seen[name] = true
				l = append(l, u)
			}
		}
	}
	return l
}

// mustHold fails unless the blocks that are taken lie apart, in the pages of the pool, and have just the words that are told.
func mustHold(t *testing.T, s api.Slab) {
	t.Helper()
	l := slab.Taken(s)
	words := 0
	for i, b := range l {
		n, e := size.Words(b.Class)
		if e != api.OK || !slab.Is(s, b) || b.At < s.Pool.Base || b.At+n > s.Pool.Base+16*s.Pool.Pages || i > 0 && b.At <= l[i-1].At {
			t.Fatalf("%v has taken %v", s, b)
		}
		words += n
	}
	had, besides := slab.Words(s)
	if slab.Check(s) != api.OK || !size.Apart(l...) || had != words || had+besides != 16*s.Pool.Pages {
		t.Fatalf("%v, with %v taken: %d, of %d and %d words", s, l, slab.Check(s), had, besides)
	}
}

// mustFill fails unless there are as many blocks as there is room, each a new one, and none beyond; freed again, in any order, they leave the words as they were.
func mustFill(t *testing.T, c *chance, s api.Slab, class int) {
	t.Helper()
	u := s
	var l []api.Block
	for n := slab.Room(s, class); n > 0; n-- {
		before := slab.Taken(u)
		if slab.Room(u, class) != n {
			t.Fatalf("Room(%v, %d): %d, not %d", u, class, slab.Room(u, class), n)
		}
		var b api.Block
		u, b = mustAlloc(t, u, class)
		if slices.Contains(before, b) || !slab.Is(u, b) || b.Class != class {
			t.Fatalf("Alloc(.., %d) of %v tells %v", class, s, b)
		}
		mustHold(t, u)
		l = slices.Insert(l, c.below(len(l)+1), b)
	}
	if _, b, e := slab.Alloc(u, class); e != api.ErrFull || b != (api.Block{}) || slab.Room(u, class) != 0 {
		t.Fatalf("Alloc beyond the room of %v: %v, %d", s, b, e)
	}
	mustBeAsWere(t, s, mustFree(t, u, l...))
}

// mustBeAsWere fails unless the same blocks are taken of both, and both have room for as many.
func mustBeAsWere(t *testing.T, s, u api.Slab) {
	t.Helper()
	had, besides := slab.Words(s)
	if n, m := slab.Words(u); n != had || m != besides || !slices.Equal(slab.Taken(u), slab.Taken(s)) {
		t.Fatalf("%v, taken and freed: %v", s, u)
	}
	for class := range 4 {
		if slab.Room(u, class) != slab.Room(s, class) {
			t.Fatalf("%v, taken and freed, has room for %d of %d", s, slab.Room(u, class), class)
		}
	}
}

// P9.5: all slabs of a page, and of two and three pages that are cut for great blocks alone. (Each such page is free, or taken in one of four ways; the free ones stand in any order.)
func TestWhatever(t *testing.T) {
	var c chance
	for _, x := range []struct {
		pages, slabs int
		classes      []int
	}{
		{0, 1, []int{0, 1, 2, 3}},
		{1, 275, []int{0, 1, 2, 3}},
		{2, 26, []int{2, 3}},
		{3, 142, []int{2, 3}},
	} {
		l := reached(t, mustNew(t, 48, x.pages), x.classes...)
		if len(l) != x.slabs {
			t.Errorf("%d slabs of %d pages are reached, not %d", len(l), x.pages, x.slabs)
		}
		for _, s := range l {
			mustHold(t, s)
			for class := range 4 {
				mustFill(t, &c, s, class)
			}
		}
	}
}

// P9.5: what is taken, and freed again, leaves the slab as it was.
func TestTakenAndFreed(t *testing.T) {
	var c chance
	for range 2000 {
		s := c.somePlain(64).slab()
		for class := range 4 {
			if u, b, e := slab.Alloc(s, class); e == api.OK && !slab.Same(mustFree(t, u, b), s) {
				t.Fatalf("%v, of which %v was taken and freed, is %v", s, b, mustFree(t, u, b))
			}
		}
	}
}

// P9.5: any slabs are filled, class by class, and freed again.
func TestFilled(t *testing.T) {
	var c chance
	for range 200 {
		s := c.somePlain(5).slab()
		for class := range 4 {
			mustFill(t, &c, s, class)
		}
	}
}

// P9.5: the greatest slab, through many changes; freed whole it has room for all.
func TestGreat(t *testing.T) {
	var c chance
	s := mustNew(t, 3072, 64)
	for range 3000 {
		taken := slab.Taken(s)
		if u, b, e := slab.Alloc(s, c.below(4)); e == api.OK && c.below(5) > 1 {
			if s = u; slices.Contains(taken, b) {
				t.Fatalf("%v is taken, and was", b)
			}
		} else if len(taken) > 0 {
			at := c.below(len(taken))
			s = mustFree(t, s, taken[at:min(len(taken), at+1+c.below(4))]...)
		}
		mustHold(t, s)
	}
	if s = mustFree(t, s, slab.Taken(s)...); len(s.Cuts) != 0 || len(s.Pool.Free) != 64 {
		t.Errorf("freed whole it is %v", s)
	}
}
