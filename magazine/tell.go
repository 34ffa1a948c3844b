package magazine

import (
	"iter"
	"slices"

	"afterglow/api"
	"afterglow/memory"
	"afterglow/size"
	"afterglow/slab"
)

// place is where a block waits: at a CPU, in the row of a class, behind so many others.
type place struct {
	cpu, class, ahead int
}

// waits tells the blocks that wait, and where, CPU by CPU, class by class, the first one first.
func waits(h api.Heap) iter.Seq2[place, api.Block] {
	return func(yield func(place, api.Block) bool) {
		for cpu, mag := range h.Mags {
			for class, row := range mag {
				for ahead, b := range row {
					if !yield(place{cpu, class, ahead}, b) {
						return
					}
				}
			}
		}
	}
}

// rows is, class by class, what each row of a magazine comes to.
func rows[T any](mag api.Magazine, to func(class int, row []api.Block) T) [api.Classes]T {
	var l [api.Classes]T
	for class, row := range mag {
		l[class] = to(class, row)
	}
	return l
}

// out are the blocks of h that are handed out, by At, and whether it may be.
func out(h api.Heap) ([]api.Block, bool) {
	if slab.Check(h.Slab) != api.OK || !mayBe(len(h.Mags)) {
		return nil, false
	}
	who := map[api.Block]place{}
	for where, b := range waits(h) {
		if _, twice := who[b]; twice || b.Class != where.class || where.ahead >= api.MaxMag {
			return nil, false
		}
		who[b] = where
	}
	taken := slab.Taken(h.Slab)
	all := len(taken)
	handed := slices.DeleteFunc(taken, func(b api.Block) bool {
		_, had := who[b]
		return had
	})
	// Of those that wait just the taken ones have gone: fewer, if one of them is not taken.
	if all-len(handed) != len(who) {
		return nil, false
	}
	return handed, true
}

// fits says whether m fits h, of which these blocks are handed out.
func fits(h api.Heap, handed []api.Block, m api.Memory) bool {
	if memory.Check(m) != api.OK {
		return false
	}
	first, words := h.Slab.Pool.Base, h.Slab.Pool.Pages*api.PageWords
	if words == 0 { // wherever the pool begins, all its words are there
		return true
	}
	if len(m.Live) < first+words {
		return false
	}
	live := make([]bool, words)
	for _, b := range handed {
		many, _ := size.Words(b.Class)
		for n := range many {
			live[b.At-first+n] = true
		}
	}
	return slices.Equal(m.Live[first:first+words:first+words], live)
}

// has says whether h has such a CPU.
func has(h api.Heap, cpu int) bool {
	return cpu >= 0 && cpu < len(h.Mags)
}

// Out: P10.2.
func Out(h api.Heap) []api.Block {
	handed, _ := out(h)
	return handed
}

// Fits: P10.2.
func Fits(h api.Heap, m api.Memory) api.Errno {
	handed, may := out(h)
	switch {
	case !may:
		return api.ErrHeap
	case !fits(h, handed, m):
		return api.ErrFit
	}
	return api.OK
}

// Words: P10.2.
func Words(h api.Heap) (int, int, int) {
	if _, may := out(h); !may {
		return 0, 0, 0
	}
	taken, besides := slab.Words(h.Slab)
	wait := 0
	for _, mag := range h.Mags {
		for _, words := range rows(mag, func(class int, row []api.Block) int {
			each, _ := size.Words(class)
			return each * len(row)
		}) {
			wait += words
		}
	}
	return taken - wait, wait, besides
}

// Bare: P10.5.
func Bare(h api.Heap, cpu, class int) bool {
	if _, may := out(h); !may || !has(h, cpu) {
		return false
	}
	if _, errno := size.Words(class); errno != api.OK {
		return false
	}
	return len(h.Mags[cpu][class]) == 0 && slab.Room(h.Slab, class) == 0
}
