package magazine_test

import (
	"math"
	"slices"
	"testing"

	"afterglow/api"
	"afterglow/magazine"
)

// chance follows from a short rule, and is the same each time.
type chance uint64

func (c *chance) below(n int) int {
	*c = *c*6364136223846793005 + 1442695040888963407
	return int(uint64(*c>>33) % uint64(n))
}

// wide are the words of the classes.
func wide() [4]int { return [4]int{2, 4, 8, 16} }

// What a plain heap says of a word: it is in no block that is taken, in one that is handed out, or in one that waits.
const (
	nobody = iota
	outside
	waiting
)

// plain is a heap told otherwise: of each page its class, or -1; what is said of each of its words; the free pages, the one that is taken next last; and of each CPU and class where the blocks begin that wait.
type plain struct {
	base  int
	class []int
	words []int
	free  []int
	rows  [][4][]int
}

// plainNew is one of which nothing is taken.
func plainNew(cpus, base, pages int) *plain {
	p := &plain{base: base, words: make([]int, 16*pages), rows: make([][4][]int, cpus)}
	for page := range pages {
		p.class = append(p.class, -1)
		p.free = append(p.free, pages-1-page)
	}
	return p
}

// somePlain is any one of at most so many pages, anywhere, whose free pages stand in any order.
func (c *chance) somePlain(most int) *plain {
	pages := c.below(most + 1)
	p := plainNew(1+c.below(8), 16*c.below(257-pages), pages)
	p.free = nil
	for page := range pages {
		if c.below(4) == 0 {
			p.free = slices.Insert(p.free, c.below(len(p.free)+1), page)
			continue
		}
		class := c.below(4)
		p.class[page] = class
		many := 16 / wide()[class]
		sure := c.below(many)
		for n := range many {
			if n == sure || c.below(3) > 0 {
				c.place(p, p.base+16*page+n*wide()[class], class)
			}
		}
	}
	return p
}

// place has a block handed out, or wait anywhere where there is room for it.
func (c *chance) place(p *plain, at, class int) {
	p.say(at, class, outside)
	row := &p.rows[c.below(len(p.rows))][class]
	if c.below(2) == 0 && len(*row) < 4 {
		*row = slices.Insert(*row, c.below(len(*row)+1), at)
		p.say(at, class, waiting)
	}
}

// say says something of all words of a block.
func (p *plain) say(at, class, what int) {
	for n := range wide()[class] {
		p.words[at-p.base+n] = what
	}
}

// copy is p in memory of its own.
func (p *plain) copy() *plain {
	q := &plain{p.base, slices.Clone(p.class), slices.Clone(p.words), slices.Clone(p.free), slices.Clone(p.rows)}
	for cpu, mag := range p.rows {
		for class, row := range mag {
			q.rows[cpu][class] = slices.Clone(row)
		}
	}
	return q
}

// cut has a block come from the pages; where it begins, or -1: there is none.
func (p *plain) cut(class int) int {
	w := wide()[class]
	for page := range p.class {
		for at := 16 * page; p.class[page] == class && at < 16*page+16; at += w {
			if p.words[at] == nobody {
				p.say(p.base+at, class, waiting)
				return p.base + at
			}
		}
	}
	last := len(p.free) - 1
	if last < 0 {
		return -1
	}
	p.class[p.free[last]] = class
	p.free = p.free[:last]
	return p.cut(class)
}

// join gives a block back to the pages.
func (p *plain) join(at, class int) {
	p.say(at, class, nobody)
	page := (at - p.base) / 16
	for _, what := range p.words[16*page : 16*page+16] {
		if what != nobody {
			return
		}
	}
	p.class[page] = -1
	p.free = append(p.free, page)
}

// alloc hands out a block.
func (p *plain) alloc(cpu, class int) (api.Block, api.Errno) {
	if cpu < 0 || cpu >= len(p.rows) || class < 0 || class > 3 {
		return api.Block{}, api.ErrArg
	}
	row := &p.rows[cpu][class]
	if len(*row) == 0 {
		for range 2 {
			if at := p.cut(class); at >= 0 {
				*row = append(*row, at)
			}
		}
	}
	if len(*row) == 0 {
		return api.Block{}, api.ErrFull
	}
	at := (*row)[len(*row)-1]
	*row = (*row)[:len(*row)-1]
	p.say(at, class, outside)
	return api.Block{At: at, Class: class}, api.OK
}

// has says whether a block is one that is handed out.
func (p *plain) has(b api.Block) bool {
	from := b.At - p.base
	return b.Class >= 0 && from >= 0 && from < len(p.words) && p.class[from/16] == b.Class && from%wide()[b.Class] == 0 && p.words[from] == outside
}

// give takes a block back.
func (p *plain) give(cpu int, b api.Block) api.Errno {
	switch {
	case cpu < 0 || cpu >= len(p.rows):
		return api.ErrArg
	case b.Class < 0 || b.Class > 3 || b.At < 0 || b.At > 4096-wide()[b.Class] || b.At%wide()[b.Class] != 0:
		return api.ErrBlock
	case !p.has(b):
		return api.ErrNone
	}
	p.say(b.At, b.Class, waiting)
	row := &p.rows[cpu][b.Class]
	if *row = append(*row, b.At); len(*row) == 5 {
		p.join((*row)[0], b.Class)
		p.join((*row)[1], b.Class)
		*row = slices.Delete(*row, 0, 2)
	}
	return api.OK
}

// drain gives back all that waits at a CPU.
func (p *plain) drain(cpu int) api.Errno {
	if cpu < 0 || cpu >= len(p.rows) {
		return api.ErrArg
	}
	for class := range 4 {
		for _, at := range p.rows[cpu][class] {
			p.join(at, class)
		}
		p.rows[cpu][class] = nil
	}
	return api.OK
}

// heap is p as a heap.
func (p *plain) heap() api.Heap {
	h := api.Heap{Slab: api.Slab{Pool: api.Pool{Base: p.base, Pages: len(p.class), Free: slices.Clone(p.free)}}}
	for page, class := range p.class {
		if class < 0 {
			continue
		}
		cut := api.Cut{Page: page, Class: class}
		for n := 0; n*wide()[class] < 16; n++ {
			if p.words[16*page+n*wide()[class]] == nobody {
				cut.Free = append(cut.Free, n)
			}
		}
		h.Slab.Cuts = append(h.Slab.Cuts, cut)
	}
	for _, mag := range p.rows {
		var m api.Magazine
		for class, row := range mag {
			for _, at := range row {
				m[class] = append(m[class], api.Block{At: at, Class: class})
			}
		}
		h.Mags = append(h.Mags, m)
	}
	return h
}

// out are the blocks that are handed out, by At.
func (p *plain) out() []api.Block {
	var l []api.Block
	for at := p.base; at < p.base+len(p.words); at += 2 {
		if class := p.class[(at-p.base)/16]; class >= 0 && p.has(api.Block{At: at, Class: class}) {
			l = append(l, api.Block{At: at, Class: class})
		}
	}
	return l
}

// count is of how many words something is said.
func (p *plain) count(what int) int {
	n := 0
	for _, w := range p.words {
		if w == what {
			n++
		}
	}
	return n
}

// near are blocks in the pages of p and beside them, of each class, and such as may not be.
func (p *plain) near() []api.Block {
	var l []api.Block
	for at := p.base - 16; at < p.base+len(p.words)+16; at++ {
		for class := -1; class < 5; class++ {
			l = append(l, api.Block{At: at, Class: class})
		}
	}
	return l
}

// put has a word of m live, and hold anything, or free.
func (c *chance) put(m api.Memory, at int, live bool) {
	m.Live[at], m.Words[at] = live, 0
	switch {
	case live:
		m.Words[at] = uint64(c.below(1 << 30))
	case c.below(2) == 0:
		m.Words[at] = api.Poison
	}
}

// memory is one that fits p, with so many words behind the pool, as far as there may be.
func (c *chance) memory(p *plain, behind int) api.Memory {
	words := min(4096, max(1, p.base+len(p.words)+behind))
	m := api.Memory{Words: make([]uint64, words), Live: make([]bool, words), Fault: c.below(3) == 0}
	for at := range words {
		live := c.below(2) == 0
		if at >= p.base && at < p.base+len(p.words) {
			live = p.words[at-p.base] == outside
		}
		c.put(m, at, live)
	}
	return m
}

// turned is m with a block's words live, of 0, or free, of Poison.
func turned(m api.Memory, b api.Block, live bool) api.Memory {
	m = double(m)
	for at := b.At; at < b.At+wide()[b.Class]; at++ {
		m.Live[at], m.Words[at] = live, 0
		if !live {
			m.Words[at] = api.Poison
		}
	}
	return m
}

// double is m in memory of its own.
func double(m api.Memory) api.Memory {
	return api.Memory{Words: slices.Clone(m.Words), Live: slices.Clone(m.Live), Fault: m.Fault}
}

// twin says whether two memories are one.
func twin(a, b api.Memory) bool {
	return slices.Equal(a.Words, b.Words) && slices.Equal(a.Live, b.Live) && a.Fault == b.Fault
}

// void says whether m is the zero value.
func void(m api.Memory) bool { return len(m.Words) == 0 && len(m.Live) == 0 && !m.Fault }

// empty says whether h is the zero value.
func empty(h api.Heap) bool {
	return h.Slab.Pool.Base == 0 && h.Slab.Pool.Pages == 0 && len(h.Slab.Pool.Free) == 0 && len(h.Slab.Cuts) == 0 && len(h.Mags) == 0
}

// alike says whether two heaps are one.
func alike(a, b api.Heap) bool {
	p, q := a.Slab, b.Slab
	if p.Pool.Base != q.Pool.Base || p.Pool.Pages != q.Pool.Pages || !slices.Equal(p.Pool.Free, q.Pool.Free) || len(p.Cuts) != len(q.Cuts) || len(a.Mags) != len(b.Mags) {
		return false
	}
	for i, c := range p.Cuts {
		if d := q.Cuts[i]; c.Page != d.Page || c.Class != d.Class || !slices.Equal(c.Free, d.Free) {
			return false
		}
	}
	for cpu, mag := range a.Mags {
		for class, row := range mag {
			if !slices.Equal(row, b.Mags[cpu][class]) {
				return false
			}
		}
	}
	return true
}

// edges are numbers that are none of a CPU, a class, a page, or a place of most.
func edges() []int {
	return []int{math.MinInt, math.MinInt + 1, -1 << 60, -1 << 32, -4096, -16, -2, -1, 16, 64, 4097, 1 << 32, 1<<32 + 1, 1 << 60, math.MaxInt - 1, math.MaxInt}
}

// noClasses are numbers of no class.
func noClasses() []int { return append(edges(), 4, 5, 8) }

// noCpus are numbers of no CPU of so many.
func noCpus(cpus int) []int { return append(edges(), cpus, cpus+1, 8, 9) }

// noBlocks are some that may not be.
func noBlocks() []api.Block {
	l := []api.Block{{At: 1}, {At: 33}, {At: 34, Class: 1}, {At: 36, Class: 2}, {At: 40, Class: 3}, {At: 4095}, {At: 4096}, {At: 4096, Class: 3}, {At: -16, Class: 3}, {At: -2}}
	for _, n := range noClasses() {
		l = append(l, api.Block{Class: n}, api.Block{At: 32, Class: n})
	}
	for _, n := range edges() {
		if n < 0 || n > 4095 {
			l = append(l, api.Block{At: n}, api.Block{At: n, Class: 3})
		}
	}
	return l
}

// down are the numbers below n, falling.
func down(n int) []int {
	var l []int
	for i := n - 1; i >= 0; i-- {
		l = append(l, i)
	}
	return l
}

// mustAlloc hands out a block.
func mustAlloc(t *testing.T, h api.Heap, m api.Memory, cpu, class int) (api.Heap, api.Memory, api.Block) {
	t.Helper()
	g, n, b, e := magazine.Alloc(h, m, cpu, class)
	if e != api.OK {
		t.Fatalf("Alloc(%v, .., %d, %d): %d", h, cpu, class, e)
	}
	return g, n, b
}

// mustFree takes a block back.
func mustFree(t *testing.T, h api.Heap, m api.Memory, cpu int, b api.Block) (api.Heap, api.Memory) {
	t.Helper()
	g, n, e := magazine.Free(h, m, cpu, b)
	if e != api.OK {
		t.Fatalf("Free(%v, .., %d, %v): %d", h, cpu, b, e)
	}
	return g, n
}

// mustDrain gives back what waits at a CPU.
func mustDrain(t *testing.T, h api.Heap, cpu int) api.Heap {
	t.Helper()
	g, e := magazine.Drain(h, cpu)
	if e != api.OK {
		t.Fatalf("Drain(%v, %d): %d", h, cpu, e)
	}
	return g
}

// mustNew makes a heap, and a memory of so many words that fits it.
func mustNew(t *testing.T, cpus, base, pages, words int) (api.Heap, api.Memory) {
	t.Helper()
	h, e := magazine.New(cpus, base, pages)
	if e != api.OK {
		t.Fatalf("New(%d, %d, %d): %d", cpus, base, pages, e)
	}
	return h, api.Memory{Words: make([]uint64, words), Live: make([]bool, words)}
}
