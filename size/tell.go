package size

import (
	"iter"

	"afterglow/api"
)

// least is the first one told of which holds is so: what is told rises.
func least[T any](told iter.Seq[T], holds func(T) bool) (T, bool) {
	for x := range told {
		if holds(x) {
			return x, true
		}
	}
	var none T
	return none, false
}

// classes tells all classes, the least one first.
func classes(yield func(int) bool) {
	for class := range sizes {
		if !yield(class) {
			return
		}
	}
}

// wordsOf tells the words of a block that may be.
func wordsOf(b api.Block) iter.Seq[int] {
	return func(yield func(int) bool) {
		for n := range sizes[b.Class] {
			if !yield(b.At + n) {
				return
			}
		}
	}
}

// inside tells the blocks of a class that lie in a block that may be.
func inside(b api.Block, class int) iter.Seq[api.Block] {
	return func(yield func(api.Block) bool) {
		for at := b.At; at < b.At+sizes[b.Class]; at += sizes[class] {
			if !yield(api.Block{At: at, Class: class}) {
				return
			}
		}
	}
}

// around tells the blocks that have all words of one that may be, that one first.
func around(b api.Block) iter.Seq[api.Block] {
	return func(yield func(api.Block) bool) {
		for class := b.Class; class < api.Classes; class++ {
			if !yield(api.Block{At: b.At - b.At%sizes[class], Class: class}) {
				return
			}
		}
	}
}
