package size

import (
	"slices"

	"afterglow/api"
)

// Parts: P8.4.
func Parts(b api.Block, class int) ([]api.Block, api.Errno) {
	switch {
	case !may(b):
		return nil, api.ErrBlock
	case !is(class):
		return nil, api.ErrArg
	case class > b.Class:
		return nil, api.ErrLong
	}
	return slices.Collect(inside(b, class)), api.OK
}

// Around: P8.4.
func Around(b api.Block, class int) (api.Block, api.Errno) {
	if !may(b) {
		return api.Block{}, api.ErrBlock
	}
	whole, had := least(around(b), func(c api.Block) bool { return c.Class == class })
	if !had {
		return api.Block{}, api.ErrArg
	}
	return whole, api.OK
}
