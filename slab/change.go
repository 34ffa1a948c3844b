package slab

import (
	"slices"

	"afterglow/api"
	"afterglow/pool"
	"afterglow/size"
)

// change is a slab that changes, in memory of its own.
type change struct {
	api.Slab
}

// copied is a row in memory of its own, of what own makes of each one of l.
func copied[T any](l []T, own func(T) T) []T {
	var row []T
	for _, x := range l {
		row = append(row, own(x))
	}
	return row
}

// begin is where a change of s begins.
func begin(s api.Slab) (*change, api.Errno) {
	if !may(s) {
		return nil, api.ErrSlab
	}
	s.Pool.Free = slices.Clone(s.Pool.Free)
	s.Cuts = copied(s.Cuts, func(c api.Cut) api.Cut {
		c.Free = slices.Clone(c.Free)
		return c
	})
	return &change{s}, api.OK
}

// take takes the first free block of the cut at the place i.
func (c *change) take(i int) api.Block {
	cut := &c.Cuts[i]
	n, many := cut.Free[0], len(cut.Free)
	cut.Free = cut.Free[1:many:many]
	return block(c.Slab, *cut, n)
}

// ofCut takes a block of a cut that there is, if one of that class has any.
func (c *change) ofCut(class int) (api.Block, bool) {
	for i := range withRoom(c.Slab, class) {
		return c.take(i), true
	}
	return api.Block{}, false
}

// ofPage takes a block of a page that is cut for it, if the pool has any.
func (c *change) ofPage(class int) (api.Block, bool) {
	p, page, errno := pool.Take(c.Pool)
	if errno != api.OK {
		return api.Block{}, false
	}
	cut := api.Cut{Page: page, Class: class}
	many, _ := size.Many(class)
	for n := range many {
		cut.Free = append(cut.Free, n)
	}
	i, _ := cutAt(c.Slab, page)
	c.Pool, c.Cuts = p, slices.Insert(c.Cuts, i, cut)
	return c.take(i), true
}

// whole says whether all blocks of a cut are free.
func whole(c api.Cut) bool {
	many, _ := size.Many(c.Class)
	return len(c.Free) == many
}

// free frees the n-th block of the cut at the place i. A cut that is whole then stays till the row is over, since a block that the row has once more is one that is free, not one that there is not.
func (c *change) free(i, n int) {
	cut := &c.Cuts[i]
	at, _ := slices.BinarySearch(cut.Free, n)
	cut.Free = slices.Insert(cut.Free, at, n)
	if whole(*cut) {
		c.Pool, _ = pool.Give(c.Pool, cut.Page)
	}
}

// Alloc: P9.2.
func Alloc(s api.Slab, class int) (api.Slab, api.Block, api.Errno) {
	c, errno := begin(s)
	if errno != api.OK {
		return api.Slab{}, api.Block{}, errno
	}
	if _, errno := size.Many(class); errno != api.OK {
		return api.Slab{}, api.Block{}, api.ErrArg
	}
	for _, from := range []func(int) (api.Block, bool){c.ofCut, c.ofPage} {
		if b, had := from(class); had {
			return c.Slab, b, api.OK
		}
	}
	return api.Slab{}, api.Block{}, api.ErrFull
}

// Free: P9.3.
func Free(s api.Slab, l ...api.Block) (api.Slab, api.Errno) {
	c, errno := begin(s)
	if errno != api.OK {
		return api.Slab{}, errno
	}
	move := c.free
row:
	for _, b := range l {
		i, n, wrong := find(c.Slab, b)
		switch {
		case wrong != api.OK:
			errno = wrong
			break row
		case flags(c.Cuts[i])[n]:
			errno = api.ErrThere
			break row
		}
		move(i, n)
	}
	if errno != api.OK {
		return api.Slab{}, errno
	}
	c.Cuts = slices.DeleteFunc(c.Cuts, whole)
	return c.Slab, api.OK
}
