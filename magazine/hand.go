package magazine

import (
	"slices"

	"afterglow/api"
	"afterglow/memory"
	"afterglow/size"
	"afterglow/slab"
)

// hand is a CPU's hand in a heap, of which these blocks are handed out, and in a memory. What can't be done leaves it by a panic of its error.
type hand struct {
	api.Heap
	handed []api.Block
	memory api.Memory
	cpu    int
}

// must leaves with an error, if there is one.
func must(errno api.Errno) {
	if errno != api.OK {
		panic(errno)
	}
}

// own is a heap that may be in memory of its own.
func own(h api.Heap) api.Heap {
	g := api.Heap{Mags: make([]api.Magazine, len(h.Mags))}
	g.Slab, _ = slab.Free(h.Slab) // no blocks: the slab as it is, in new memory
	for cpu, mag := range h.Mags {
		g.Mags[cpu] = rows(mag, func(_ int, row []api.Block) []api.Block { return slices.Clone(row) })
	}
	return g
}

// tried is a hand in h behind what it does; or an empty one, and the error with which it was left.
func tried(h api.Heap, does func(*hand)) (d hand, errno api.Errno) {
	defer func() {
		if wrong := recover(); wrong != nil {
			d, errno = hand{}, wrong.(api.Errno)
		}
	}()
	handed, may := out(h)
	if !may {
		panic(api.ErrHeap)
	}
	d = hand{Heap: own(h), handed: handed}
	does(&d)
	return d, api.OK
}

// hold takes a memory, that has to fit, in hand.
func (d *hand) hold(m api.Memory) {
	if !fits(d.Heap, d.handed, m) {
		panic(api.ErrFit)
	}
	d.memory = m
}

// at makes it the hand of a CPU.
func (d *hand) at(cpu int) {
	if !has(d.Heap, cpu) {
		panic(api.ErrArg)
	}
	d.cpu = cpu
}

// row is the row of a class at the CPU.
func (d *hand) row(class int) *[]api.Block {
	return &d.Mags[d.cpu][class]
}

// fill lets blocks come from the slab, as long as it has one.
func (d *hand) fill(class int) {
	row := d.row(class)
	for range api.HalfMag {
		s, b, errno := slab.Alloc(d.Slab, class)
		if errno != api.OK {
			return
		}
		d.Slab, *row = s, append(*row, b)
	}
}

// back gives blocks back to the slab.
func (d *hand) back(l ...api.Block) {
	s, errno := slab.Free(d.Slab, l...)
	must(errno)
	d.Slab = s
}

// give hands out a block.
func (d *hand) give(class int) api.Block {
	words, errno := size.Words(class)
	must(errno)
	row := d.row(class)
	if len(*row) == 0 {
		d.fill(class)
	}
	last := len(*row) - 1
	if last < 0 {
		panic(api.ErrFull)
	}
	b := (*row)[last]
	*row = (*row)[:last:last]
	m, errno := memory.Live(d.memory, b.At, words)
	must(errno)
	d.memory = m
	return b
}

// take takes a block back.
func (d *hand) take(b api.Block) {
	must(size.Check(b))
	if !slices.Contains(d.handed, b) {
		panic(api.ErrNone)
	}
	words, errno := size.Words(b.Class)
	must(errno)
	m, errno := memory.Free(d.memory, b.At, words)
	must(errno)
	d.memory = m
	row := d.row(b.Class)
	*row = append(*row, b)
	if many := len(*row); many > api.MaxMag {
		d.back((*row)[:api.HalfMag:api.HalfMag]...)
		*row = (*row)[api.HalfMag:many:many]
	}
}

// drain gives back all blocks that wait at the CPU.
func (d *hand) drain() {
	for class := range api.Classes {
		row := d.row(class)
		d.back(*row...)
		*row = nil
	}
}

// Alloc: P10.3.
func Alloc(h api.Heap, m api.Memory, cpu, class int) (api.Heap, api.Memory, api.Block, api.Errno) {
	var b api.Block
	d, errno := tried(h, func(d *hand) {
		d.hold(m)
		d.at(cpu)
		b = d.give(class)
	})
	return d.Heap, d.memory, b, errno
}

// Free: P10.4.
func Free(h api.Heap, m api.Memory, cpu int, b api.Block) (api.Heap, api.Memory, api.Errno) {
	d, errno := tried(h, func(d *hand) {
		d.hold(m)
		d.at(cpu)
		d.take(b)
	})
	return d.Heap, d.memory, errno
}

// Drain: P10.5.
func Drain(h api.Heap, cpu int) (api.Heap, api.Errno) {
	d, errno := tried(h, func(d *hand) {
		d.at(cpu)
		d.drain()
	})
	return d.Heap, errno
}
