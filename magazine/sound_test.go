package magazine_test

import (
	"slices"
	"testing"

	"afterglow/api"
)

// sound is a heap of three CPUs that may be. Its page 0 has the blocks 0 and 3 of the class 1 waiting, and 2 handed out; its page 1 is handed out; of its page 3 blocks of the class 0 wait at two CPUs, and one is handed out; its page 2 is free.
func sound() api.Heap {
	return api.Heap{
		Slab: api.Slab{
			Pool: api.Pool{Base: 32, Pages: 4, Free: []int{2}},
			Cuts: []api.Cut{{Page: 0, Class: 1, Free: []int{1}}, {Page: 1, Class: 3}, {Page: 3, Class: 0, Free: []int{7}}},
		},
		Mags: []api.Magazine{
			{{{At: 82}, {At: 80}, {At: 88}, {At: 84}}, {{At: 44, Class: 1}}, nil, nil},
			{{{At: 90}, {At: 86}}, {{At: 32, Class: 1}}, nil, nil},
			{},
		},
	}
}

// soundOut are the blocks that the sound heap has handed out.
func soundOut() []api.Block {
	return []api.Block{{At: 40, Class: 1}, {At: 48, Class: 3}, {At: 92}}
}

// soundMemory is one that fits the sound heap, of just its words and those ahead.
func soundMemory() api.Memory {
	m := api.Memory{Words: make([]uint64, 96), Live: make([]bool, 96)}
	for _, b := range soundOut() {
		for at := b.At; at < b.At+wide()[b.Class]; at++ {
			m.Live[at], m.Words[at] = true, uint64(1000+at)
		}
	}
	m.Words[36], m.Words[94] = api.Poison, api.Poison
	m.Words[5], m.Live[5] = 55, true
	return m
}

// changed is the sound heap with one change.
func changed(change func(*api.Heap)) api.Heap {
	h := sound()
	change(&h)
	return h
}

// noHeaps are some that may not be, each for one cause alone.
func noHeaps() []api.Heap {
	l := []api.Heap{
		{},
		{Mags: []api.Magazine{}},
		{Mags: make([]api.Magazine, 9)},
		{Mags: make([]api.Magazine, 100000)},
		changed(func(h *api.Heap) { h.Mags = nil }),
		changed(func(h *api.Heap) { h.Mags = append(h.Mags, make([]api.Magazine, 6)...) }),
	}
	return append(append(append(l, noSlabs()...), noRows()...), twice()...)
}

// noSlabs are heaps whose slab may not be, also though nothing waits.
func noSlabs() []api.Heap {
	var l []api.Heap
	for _, s := range []api.Slab{
		{Pool: api.Pool{Base: 8}},
		{Pool: api.Pool{Base: -16}},
		{Pool: api.Pool{Base: 4112}},
		{Pool: api.Pool{Pages: -1}},
		{Pool: api.Pool{Pages: 65}},
		{Pool: api.Pool{Pages: 1}},
		{Pool: api.Pool{Base: 4096, Pages: 1, Free: []int{0}}},
		{Pool: api.Pool{Pages: 2, Free: []int{1, 0, 1}}},
		{Cuts: []api.Cut{{Class: 3}}},
	} {
		l = append(l, api.Heap{Slab: s, Mags: make([]api.Magazine, 2)})
	}
	return append(l,
		changed(func(h *api.Heap) { h.Slab.Pool.Base = 40 }),
		changed(func(h *api.Heap) { h.Slab.Pool.Pages = 5 }),
		changed(func(h *api.Heap) { h.Slab.Pool.Free = nil }),
		changed(func(h *api.Heap) { h.Slab.Pool.Free = []int{2, 2} }),
		changed(func(h *api.Heap) { h.Slab.Cuts = append(h.Slab.Cuts, api.Cut{Page: 4, Class: 3}) }),
		changed(func(h *api.Heap) { h.Slab.Cuts[0].Free = []int{1, 1} }),
		changed(func(h *api.Heap) { h.Slab.Cuts[0].Free = []int{4} }),
		changed(func(h *api.Heap) { h.Slab.Cuts[1].Free = []int{0} }),
		changed(func(h *api.Heap) { h.Slab.Cuts[1].Class = 4 }),
		changed(func(h *api.Heap) { slices.Reverse(h.Slab.Cuts) }),
	)
}

// noRows are heaps in which a row has what is not of it, or too much.
func noRows() []api.Heap {
	var l []api.Heap
	for class := range 4 {
		wrong := append(noBlocks(), api.Block{At: 16, Class: class}, api.Block{At: 96, Class: class}, api.Block{At: 64, Class: class}, api.Block{At: 36, Class: 1}, api.Block{At: 94}, api.Block{At: 32}, api.Block{At: 48, Class: 2}, api.Block{At: 84, Class: 1})
		for _, b := range soundOut() {
			if b.Class != class {
				wrong = append(wrong, b)
			}
		}
		for _, b := range wrong {
			l = append(l,
				changed(func(h *api.Heap) { h.Mags[2][class] = []api.Block{b} }),
				changed(func(h *api.Heap) { h.Mags[1][class] = append(h.Mags[1][class], b) }),
				changed(func(h *api.Heap) { h.Mags[1][class] = append([]api.Block{b}, h.Mags[1][class]...) }),
			)
		}
	}
	return append(l,
		changed(func(h *api.Heap) { h.Mags[0][0] = append(h.Mags[0][0], api.Block{At: 92}) }),
		changed(func(h *api.Heap) { h.Mags[0][0] = append(h.Mags[0][0], h.Mags[1][0]...); h.Mags[1][0] = nil }),
		changed(func(h *api.Heap) { h.Mags[2][3] = make([]api.Block, 100000) }),
		changed(func(h *api.Heap) { h.Mags[0][0], h.Mags[0][1] = h.Mags[0][1], h.Mags[0][0] }),
	)
}

// twice are heaps in which a block waits twice, at one CPU, or at two.
func twice() []api.Heap {
	var l []api.Heap
	for _, b := range []api.Block{{At: 80}, {At: 90}, {At: 44, Class: 1}, {At: 32, Class: 1}} {
		for cpu := range 3 {
			if cpu > 0 || b.Class > 0 {
				l = append(l, changed(func(h *api.Heap) { h.Mags[cpu][b.Class] = append(h.Mags[cpu][b.Class], b) }))
			}
		}
	}
	for _, b := range soundOut() {
		l = append(l,
			changed(func(h *api.Heap) { h.Mags[2][b.Class] = []api.Block{b, b} }),
			changed(func(h *api.Heap) {
				h.Mags = append(h.Mags, api.Magazine{})
				h.Mags[2][b.Class], h.Mags[3][b.Class] = []api.Block{b}, []api.Block{b}
			}),
		)
	}
	return append(l, changed(func(h *api.Heap) { h.Mags[0][0][0] = api.Block{At: 80} }))
}

// noFits are memories that do not fit the sound heap, each for one cause alone.
func noFits() []api.Memory {
	short := soundMemory()
	short.Words, short.Live = short.Words[:95], short.Live[:95]
	long := api.Memory{Words: make([]uint64, 4097), Live: make([]bool, 4097)}
	copy(long.Words, soundMemory().Words)
	copy(long.Live, soundMemory().Live)
	odd, held, poison := soundMemory(), soundMemory(), soundMemory()
	odd.Live = append(odd.Live, false)
	held.Words[0] = 1
	poison.Words[36] = api.Poison + 1
	l := []api.Memory{{}, {Fault: true}, short, long, odd, held, poison, {Words: soundMemory().Words}, {Live: soundMemory().Live}, {Words: make([]uint64, 96), Live: make([]bool, 96)}}
	for at := 32; at < 96; at++ {
		m := soundMemory()
		m.Live[at], m.Words[at] = !m.Live[at], 0
		l = append(l, m)
	}
	return l
}

// roomy is l with room behind its end, and something there.
func roomy[T any](l []T, there T) []T {
	return append(slices.Clone(l), slices.Repeat([]T{there}, 9)...)[:len(l)]
}

// given is h, each list of which has room behind its end, in memory of its own.
func given(h api.Heap) api.Heap {
	h.Slab.Pool.Free = roomy(h.Slab.Pool.Free, 55)
	h.Slab.Cuts = roomy(h.Slab.Cuts, api.Cut{Page: 55, Class: 55})
	for i := range h.Slab.Cuts[:cap(h.Slab.Cuts)] {
		c := &h.Slab.Cuts[:cap(h.Slab.Cuts)][i]
		c.Free = roomy(c.Free, 55)
	}
	h.Mags = roomy(h.Mags, api.Magazine{{{At: 55}}})
	for cpu := range h.Mags[:cap(h.Mags)] {
		mag := &h.Mags[:cap(h.Mags)][cpu]
		for class := range mag {
			mag[class] = roomy(mag[class], api.Block{At: 55, Class: 55})
		}
	}
	return h
}

// all is h, each list with the room behind it, in memory of its own.
func all(h api.Heap) api.Heap {
	h.Slab.Pool.Free = slices.Clone(h.Slab.Pool.Free[:cap(h.Slab.Pool.Free)])
	h.Slab.Cuts = slices.Clone(h.Slab.Cuts[:cap(h.Slab.Cuts)])
	for i, c := range h.Slab.Cuts {
		h.Slab.Cuts[i].Free = slices.Clone(c.Free[:cap(c.Free)])
	}
	h.Mags = slices.Clone(h.Mags[:cap(h.Mags)])
	for cpu, mag := range h.Mags {
		for class, row := range mag {
			h.Mags[cpu][class] = slices.Clone(row[:cap(row)])
		}
	}
	return h
}

// fill writes over all of a list, and the room behind it.
func fill[T any](l []T, with T) {
	for i := range l[:cap(l)] {
		l[:cap(l)][i] = with
	}
}

// scrub writes over all lists of h and m, and the room behind them.
func scrub(h api.Heap, m api.Memory, with int) {
	fill(h.Slab.Pool.Free, with)
	for _, c := range h.Slab.Cuts[:cap(h.Slab.Cuts)] {
		fill(c.Free, with)
	}
	fill(h.Slab.Cuts, api.Cut{Page: with, Class: with})
	for _, mag := range h.Mags[:cap(h.Mags)] {
		for _, row := range mag {
			fill(row, api.Block{At: with, Class: with})
		}
	}
	fill(h.Mags, api.Magazine{{{At: with}}})
	fill(m.Words, uint64(with))
	fill(m.Live, with%2 == 0)
}

// mustStandAlone fails if two lists of h share memory.
func mustStandAlone(t *testing.T, h api.Heap) {
	t.Helper()
	mustBeApart(t, h.Slab.Pool.Free, cuts(h)...)
	var rows [][]api.Block
	for _, mag := range h.Mags {
		rows = append(rows, mag[:]...)
	}
	mustBeApart(t, nil, rows...)
}

// cuts are the lists of the cuts of h.
func cuts(h api.Heap) [][]int {
	var l [][]int
	for _, c := range h.Slab.Cuts {
		l = append(l, c.Free)
	}
	return l
}

// mustBeApart fails if two of these lists share memory.
func mustBeApart[T any](t *testing.T, first []T, others ...[]T) {
	t.Helper()
	seen := map[*T]int{}
	for i, l := range append(others, first) {
		for j := range l[:cap(l)] {
			if other, had := seen[&l[:cap(l)][j]]; had && other != i {
				t.Fatalf("two lists share memory: %d and %d of %v", other, i, others)
			}
			seen[&l[:cap(l)][j]] = i
		}
	}
}
