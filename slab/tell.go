package slab

import (
	"cmp"
	"iter"
	"slices"

	"afterglow/api"
	"afterglow/pool"
	"afterglow/size"
)

// most is how many blocks a cut has at most.
const most = api.PageWords / api.LeastWords

// flags says which blocks of a cut are free.
func flags(c api.Cut) [most]bool {
	var free [most]bool
	for _, n := range c.Free {
		free[n] = true
	}
	return free
}

// block is the n-th block of a cut of s.
func block(s api.Slab, c api.Cut, n int) api.Block {
	first, _ := pool.Word(s.Pool, c.Page)
	b, _ := size.Place(c.Class, first/api.PageWords, n)
	return b
}

// cutAt is the place of a page's cut among those of s, or where it would stand.
func cutAt(s api.Slab, page int) (int, bool) {
	return slices.BinarySearchFunc(s.Cuts, page, func(c api.Cut, page int) int {
		return cmp.Compare(c.Page, page)
	})
}

// find is the place of the cut whose block b is, and its number there.
func find(s api.Slab, b api.Block) (int, int, api.Errno) {
	_, n, errno := size.Find(b)
	if errno != api.OK {
		return 0, 0, errno
	}
	page, _, errno := pool.Page(s.Pool, b.At)
	if errno != api.OK {
		return 0, 0, api.ErrNone
	}
	i, had := cutAt(s, page)
	if !had || s.Cuts[i].Class != b.Class {
		return 0, 0, api.ErrNone
	}
	return i, n, api.OK
}

// withRoom tells the places of the cuts of a class that have a free block, the first one first.
func withRoom(s api.Slab, class int) iter.Seq[int] {
	return func(yield func(int) bool) {
		for i, c := range s.Cuts {
			if c.Class == class && len(c.Free) > 0 && !yield(i) {
				return
			}
		}
	}
}

// taken tells the blocks of s that are taken, by At.
func taken(s api.Slab) iter.Seq[api.Block] {
	return func(yield func(api.Block) bool) {
		for _, c := range s.Cuts {
			free := flags(c)
			many, _ := size.Many(c.Class)
			for n := range many {
				if !free[n] && !yield(block(s, c, n)) {
					return
				}
			}
		}
	}
}

// Taken: P9.4.
func Taken(s api.Slab) []api.Block {
	if !may(s) {
		return nil
	}
	return slices.Collect(taken(s))
}

// Is: P9.4.
func Is(s api.Slab, b api.Block) bool {
	if !may(s) {
		return false
	}
	i, n, errno := find(s, b)
	return errno == api.OK && !flags(s.Cuts[i])[n]
}

// Words: P9.4.
func Words(s api.Slab) (int, int) {
	if !may(s) {
		return 0, 0
	}
	had := 0
	for b := range taken(s) {
		words, _ := size.Words(b.Class)
		had += words
	}
	return had, s.Pool.Pages*api.PageWords - had
}

// Room: P9.4.
func Room(s api.Slab, class int) int {
	many, errno := size.Many(class)
	if errno != api.OK || !may(s) {
		return 0
	}
	room := many * len(s.Pool.Free)
	for i := range withRoom(s, class) {
		room += len(s.Cuts[i].Free)
	}
	return room
}
