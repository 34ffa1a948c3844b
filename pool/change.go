package pool

import (
	"slices"

	"afterglow/api"
)

// change is a pool that changes, in memory of its own, and which of its pages are free.
type change struct {
	api.Pool
	free [api.MaxPages]bool
}

// begin is where a change of p begins.
func begin(p api.Pool) (*change, api.Errno) {
	free, may := flags(p)
	if !may {
		return nil, api.ErrPool
	}
	p.Free = slices.Clone(p.Free)
	return &change{Pool: p, free: free}, api.OK
}

// take takes off the last one of Free, which page is. The cut has no room behind its end, so that nothing is left there of what was taken.
func (c *change) take(page int) {
	last := len(c.Free) - 1
	c.Free = c.Free[:last:last]
	c.free[page] = false
}

// give puts a page behind the others of Free.
func (c *change) give(page int) {
	c.Free = append(c.Free, page)
	c.free[page] = true
}

// Take: P7.2.
func Take(p api.Pool) (api.Pool, int, api.Errno) {
	c, errno := begin(p)
	if errno != api.OK {
		return api.Pool{}, 0, errno
	}
	move := c.take
	for page := range next(c.Pool) {
		move(page)
		return c.Pool, page, api.OK
	}
	return api.Pool{}, 0, api.ErrFull
}

// Give: P7.2.
func Give(p api.Pool, pages ...int) (api.Pool, api.Errno) {
	c, errno := begin(p)
	if errno != api.OK {
		return api.Pool{}, errno
	}
	move := c.give
row:
	for _, page := range pages {
		switch {
		case !has(p, page):
			errno = api.ErrArg
			break row
		case c.free[page]:
			errno = api.ErrThere
			break row
		}
		move(page)
	}
	if errno != api.OK {
		return api.Pool{}, errno
	}
	return c.Pool, api.OK
}
