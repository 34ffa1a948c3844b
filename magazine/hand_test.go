package magazine_test

import (
	"slices"
	"testing"

	"afterglow/api"
	"afterglow/magazine"
)

// P10.3: the last one that waits is handed out; where none waits, two come from the slab, and the first one of them waits.
func TestAlloc(t *testing.T) {
	for _, c := range []struct {
		cpu, class int
		b          api.Block
		want       api.Heap
	}{
		{0, 0, api.Block{At: 84}, changed(func(h *api.Heap) { h.Mags[0][0] = h.Mags[0][0][:3] })},
		{1, 0, api.Block{At: 86}, changed(func(h *api.Heap) { h.Mags[1][0] = h.Mags[1][0][:1] })},
		{0, 1, api.Block{At: 44, Class: 1}, changed(func(h *api.Heap) { h.Mags[0][1] = nil })},
		{2, 1, api.Block{At: 64, Class: 1}, changed(func(h *api.Heap) {
			h.Slab.Pool.Free, h.Slab.Cuts[0].Free = nil, nil
			h.Slab.Cuts = slices.Insert(h.Slab.Cuts, 2, api.Cut{Page: 2, Class: 1, Free: []int{1, 2, 3}})
			h.Mags[2][1] = []api.Block{{At: 36, Class: 1}}
		})},
		{2, 0, api.Block{At: 64}, changed(func(h *api.Heap) {
			h.Slab.Pool.Free, h.Slab.Cuts[2].Free = nil, nil
			h.Slab.Cuts = slices.Insert(h.Slab.Cuts, 2, api.Cut{Page: 2, Free: []int{1, 2, 3, 4, 5, 6, 7}})
			h.Mags[2][0] = []api.Block{{At: 94}}
		})},
		{0, 2, api.Block{At: 72, Class: 2}, changed(func(h *api.Heap) {
			h.Slab.Pool.Free = nil
			h.Slab.Cuts = slices.Insert(h.Slab.Cuts, 2, api.Cut{Page: 2, Class: 2})
			h.Mags[0][2] = []api.Block{{At: 64, Class: 2}}
		})},
		{1, 3, api.Block{At: 64, Class: 3}, changed(func(h *api.Heap) {
			h.Slab.Pool.Free = nil
			h.Slab.Cuts = slices.Insert(h.Slab.Cuts, 2, api.Cut{Page: 2, Class: 3})
		})},
	} {
		h, m, b, e := magazine.Alloc(sound(), soundMemory(), c.cpu, c.class)
		if e != api.OK || b != c.b || !alike(h, c.want) || !twin(m, turned(soundMemory(), c.b, true)) {
			t.Errorf("Alloc(sound, %d, %d): %v, %v, %v, %d", c.cpu, c.class, h, m, b, e)
		}
	}
}

// P10.3: no more than two come at once, and none while one waits; all is handed out then, whatever waits at others.
func TestAllocOn(t *testing.T) {
	h, m := mustNew(t, 2, 16, 1, 40)
	for i, c := range []struct{ cpu, at, waits int }{{0, 20, 1}, {0, 16, 0}, {1, 28, 1}} {
		var b api.Block
		h, m, b = mustAlloc(t, h, m, c.cpu, 1)
		if b != (api.Block{At: c.at, Class: 1}) || len(h.Mags[c.cpu][1]) != c.waits {
			t.Fatalf("the block %d: %v, in %v", i, b, h)
		}
	}
	if _, _, _, e := magazine.Alloc(h, m, 0, 1); e != api.ErrFull || !magazine.Bare(h, 0, 1) {
		t.Errorf("Alloc(%v, .., 0, 1): %d", h, e)
	}
	h, m, b := mustAlloc(t, h, m, 1, 1)
	if b != (api.Block{At: 24, Class: 1}) || len(magazine.Out(h)) != 4 || m.Live[15] || !m.Live[16] || !m.Live[31] || m.Live[32] {
		t.Errorf("the last one: %v, %v, %v", b, h, m)
	}
	if _, _, _, e := magazine.Alloc(h, m, 1, 1); e != api.ErrFull {
		t.Errorf("Alloc(%v, .., 1, 1): %d", h, e)
	}
}

// P10.3: ErrArg for no CPU, or no class, also where nothing is left; ErrFull, if none waits at that CPU, and the slab has none of that class.
func TestAllocErrors(t *testing.T) {
	for _, h := range []api.Heap{sound(), whole(1, 3), mustHeap(t, 3, 16, 0), mustHeap(t, 8, 48, 2)} {
		m := fitting(h)
		for _, cpu := range noCpus(len(h.Mags)) {
			for class := -1; class < 5; class++ {
				if cpu >= 0 && cpu < len(h.Mags) {
					continue
				}
				if g, n, b, e := magazine.Alloc(h, m, cpu, class); e != api.ErrArg || !empty(g) || !void(n) || b != (api.Block{}) {
					t.Errorf("Alloc(%v, .., %d, %d): %v, %v, %v, %d", h, cpu, class, g, n, b, e)
				}
			}
		}
		for _, class := range noClasses() {
			for cpu := range h.Mags {
				if g, n, b, e := magazine.Alloc(h, m, cpu, class); e != api.ErrArg || !empty(g) || !void(n) || b != (api.Block{}) {
					t.Errorf("Alloc(%v, .., %d, %d): %v, %v, %v, %d", h, cpu, class, g, n, b, e)
				}
			}
		}
	}
	full := whole(2, 3)
	for class := range 4 {
		if g, n, b, e := magazine.Alloc(full, fitting(full), 0, class); e != api.ErrFull || !empty(g) || !void(n) || b != (api.Block{}) {
			t.Errorf("Alloc(%v, .., 0, %d): %v, %v, %v, %d", full, class, g, n, b, e)
		}
	}
	if _, _, b := mustAlloc(t, full, fitting(full), 1, 3); b != (api.Block{At: 4080, Class: 3}) {
		t.Errorf("Alloc(%v, .., 1, 3): %v", full, b)
	}
}

// fitting is a memory of all words that fits a heap.
func fitting(h api.Heap) api.Memory {
	m := api.Memory{Words: make([]uint64, 4096), Live: make([]bool, 4096)}
	for _, b := range magazine.Out(h) {
		m = turned(m, b, true)
	}
	return m
}

// P10.4: what is taken back waits behind the others, at that CPU, wherever it was handed out; of five the first two go back.
func TestFree(t *testing.T) {
	for _, c := range []struct {
		cpu  int
		b    api.Block
		want api.Heap
	}{
		{1, api.Block{At: 92}, changed(func(h *api.Heap) { h.Mags[1][0] = append(h.Mags[1][0], api.Block{At: 92}) })},
		{2, api.Block{At: 92}, changed(func(h *api.Heap) { h.Mags[2][0] = []api.Block{{At: 92}} })},
		{0, api.Block{At: 40, Class: 1}, changed(func(h *api.Heap) { h.Mags[0][1] = []api.Block{{At: 44, Class: 1}, {At: 40, Class: 1}} })},
		{2, api.Block{At: 48, Class: 3}, changed(func(h *api.Heap) { h.Mags[2][3] = []api.Block{{At: 48, Class: 3}} })},
		{0, api.Block{At: 92}, changed(func(h *api.Heap) {
			h.Mags[0][0] = []api.Block{{At: 88}, {At: 84}, {At: 92}}
			h.Slab.Cuts[2].Free = []int{0, 1, 7}
		})},
	} {
		h, m, e := magazine.Free(sound(), soundMemory(), c.cpu, c.b)
		if e != api.OK || !alike(h, c.want) || !twin(m, turned(soundMemory(), c.b, false)) {
			t.Errorf("Free(sound, %d, %v): %v, %v, %d", c.cpu, c.b, h, m, e)
		}
	}
}

// P10.4: five great blocks in a row: the pages of the first two are given back, the first one first.
func TestFreeFive(t *testing.T) {
	h := whole(6, 3)
	h.Slab.Pool.Base = 160
	for _, c := range []struct {
		row, stay, free []int
		b               int
	}{
		{[]int{160, 176, 192, 208}, []int{192, 208, 240}, []int{0, 1}, 240},
		{[]int{176, 160, 192, 208}, []int{192, 208, 240}, []int{1, 0}, 240},
		{[]int{240, 192, 176, 160}, []int{176, 160, 224}, []int{5, 2}, 224},
		{[]int{208, 224, 240, 160}, []int{240, 160, 176}, []int{3, 4}, 176},
	} {
		h.Mags[1][3] = great(c.row)
		g, _ := mustFree(t, h, fitting(h), 1, api.Block{At: c.b, Class: 3})
		if !slices.Equal(g.Mags[1][3], great(c.stay)) || !slices.Equal(g.Slab.Pool.Free, c.free) || len(g.Slab.Cuts) != 4 {
			t.Errorf("Free(%v, .., 1, %d): %v", h, c.b, g)
		}
	}
}

// great are great blocks at these places.
func great(at []int) []api.Block {
	var l []api.Block
	for _, n := range at {
		l = append(l, api.Block{At: n, Class: 3})
	}
	return l
}

// P10.4: ErrArg for no CPU, ahead of all that is wrong with the block; ErrBlock, if it may not be; ErrNone, if it is not handed out: free, waiting (there, or elsewhere), of another class, or beside the pool.
func TestFreeErrors(t *testing.T) {
	none := []api.Block{{}, {At: 16, Class: 3}, {At: 30}, {At: 96}, {At: 96, Class: 3}, {At: 4080, Class: 3}, {At: 64, Class: 3}, {At: 72, Class: 2}, {At: 36, Class: 1}, {At: 94}, {At: 40}, {At: 40, Class: 2}, {At: 32, Class: 3}, {At: 48}, {At: 48, Class: 2}, {At: 92, Class: 1}}
	for _, mag := range sound().Mags {
		for _, row := range mag {
			none = append(none, row...)
		}
	}
	for cpu := range 3 {
		for _, b := range none {
			if g, n, e := magazine.Free(sound(), soundMemory(), cpu, b); e != api.ErrNone || !empty(g) || !void(n) {
				t.Errorf("Free(sound, %d, %v): %v, %v, %d", cpu, b, g, n, e)
			}
		}
		for _, b := range noBlocks() {
			if g, n, e := magazine.Free(sound(), soundMemory(), cpu, b); e != api.ErrBlock || !empty(g) || !void(n) {
				t.Errorf("Free(sound, %d, %v): %v, %v, %d", cpu, b, g, n, e)
			}
		}
	}
	for _, cpu := range noCpus(3) {
		for _, b := range append(append(noBlocks(), none...), soundOut()...) {
			if g, n, e := magazine.Free(sound(), soundMemory(), cpu, b); e != api.ErrArg || !empty(g) || !void(n) {
				t.Errorf("Free(sound, %d, %v): %v, %v, %d", cpu, b, g, n, e)
			}
		}
	}
}

// P10.5: all that waits at a CPU goes back, and what waits at others stays.
func TestDrain(t *testing.T) {
	for cpu, want := range []api.Heap{
		changed(func(h *api.Heap) {
			h.Slab.Cuts[0].Free, h.Slab.Cuts[2].Free = []int{1, 3}, []int{0, 1, 2, 4, 7}
			h.Mags[0] = api.Magazine{}
		}),
		changed(func(h *api.Heap) {
			h.Slab.Cuts[0].Free, h.Slab.Cuts[2].Free = []int{0, 1}, []int{3, 5, 7}
			h.Mags[1] = api.Magazine{}
		}),
		sound(),
	} {
		if h, e := magazine.Drain(sound(), cpu); e != api.OK || !alike(h, want) {
			t.Errorf("Drain(sound, %d): %v, %d", cpu, h, e)
		}
	}
	for _, h := range []api.Heap{sound(), whole(2, 3), mustHeap(t, 1, 16, 0), mustHeap(t, 8, 16, 4)} {
		for _, cpu := range noCpus(len(h.Mags)) {
			if g, e := magazine.Drain(h, cpu); (cpu < 0 || cpu >= len(h.Mags)) && (e != api.ErrArg || !empty(g)) {
				t.Errorf("Drain(%v, %d): %v, %d", h, cpu, g, e)
			}
		}
	}
}

// P10.5: class by class, the first one first: so pages are given back.
func TestDrainPages(t *testing.T) {
	h := api.Heap{Slab: api.Slab{Pool: api.Pool{Base: 16, Pages: 8, Free: []int{6}}}, Mags: make([]api.Magazine, 2)}
	for page, class := range []int{3, 2, 1, 0, 3, 0, -1, 2} {
		if class >= 0 {
			cut := api.Cut{Page: page, Class: class}
			for n := 1; n < 16/wide()[class]; n++ {
				cut.Free = append(cut.Free, n)
			}
			h.Slab.Cuts = append(h.Slab.Cuts, cut)
		}
	}
	h.Mags[1] = api.Magazine{{{At: 96}, {At: 64}}, {{At: 48, Class: 1}}, {{At: 32, Class: 2}, {At: 128, Class: 2}}, {{At: 80, Class: 3}, {At: 16, Class: 3}}}
	if g := mustDrain(t, h, 1); !slices.Equal(g.Slab.Pool.Free, []int{6, 5, 3, 2, 1, 7, 4, 0}) || len(g.Slab.Cuts) != 0 {
		t.Errorf("Drain(%v, 1): %v", h, g)
	}
	if g := mustDrain(t, h, 0); !alike(g, h) {
		t.Errorf("Drain(%v, 0): %v", h, g)
	}
}

// some makes any change of h, m and p, and says what each side tells of it.
func (c *chance) some(p *plain, h api.Heap, m api.Memory) (api.Heap, api.Memory, api.Memory, [2]api.Block, [2]api.Errno) {
	var b [2]api.Block
	var e [2]api.Errno
	var n api.Memory
	want := m
	cpu, class := c.below(len(p.rows)), c.below(4)
	if c.below(24) == 0 {
		cpu, class = c.below(11)-1, c.below(6)-1
	}
	switch kind := c.below(16); {
	case kind == 0:
		h, e[0] = magazine.Drain(h, cpu)
		e[1], n = p.drain(cpu), m
		return h, n, want, b, e
	case kind < 8:
		h, n, b[0], e[0] = magazine.Alloc(h, m, cpu, class)
		if b[1], e[1] = p.alloc(cpu, class); e[1] == api.OK {
			want = turned(m, b[1], true)
		}
	default:
		l := p.out()
		if c.below(16) == 0 || len(l) == 0 {
			l = append(p.near(), noBlocks()...)
		}
		x := l[c.below(len(l))]
		h, n, e[0] = magazine.Free(h, m, cpu, x)
		if e[1] = p.give(cpu, x); e[1] == api.OK {
			want = turned(m, x, false)
		}
	}
	return h, n, want, b, e
}

// P10.3 to P10.5: any heap, through rows of all kinds of changes, as they are told otherwise.
func TestPlain(t *testing.T) {
	var c chance
	had := map[api.Errno]int{}
	for range 1200 {
		p := c.somePlain(6)
		h, m := p.heap(), c.memory(p, 3)
		for range 30 {
			g, n, want, b, e := c.some(p, h, m)
			had[e[0]]++
			if e[0] != e[1] || b[0] != b[1] {
				t.Fatalf("%v comes to %v, %d, not %v, %d", h, b[0], e[0], b[1], e[1])
			}
			if e[0] != api.OK {
				if !empty(g) {
					t.Fatalf("%v, %d is told of %v", g, e[0], h)
				}
				continue
			}
			if !alike(g, p.heap()) || !twin(n, want) {
				t.Fatalf("%v comes to %v, %v, not %v, %v", h, g, n, p.heap(), want)
			}
			h, m = g, n
		}
	}
	for _, e := range []api.Errno{api.OK, api.ErrArg, api.ErrFull, api.ErrBlock, api.ErrNone} {
		if had[e] < 100 {
			t.Errorf("%d is told %d times", e, had[e])
		}
	}
}

// P10.3 to P10.5: what is handed in stays as it is, the room behind it, too, and is not kept; no two lists of an answer share memory.
func TestChangesApart(t *testing.T) {
	var c chance
	for range 150 {
		p := c.somePlain(6)
		m := c.memory(p, 2)
		for cpu := range p.rows {
			for class := range 4 {
				keepsApart(t, p.heap(), m, func(h api.Heap, m api.Memory) (api.Heap, api.Memory) {
					g, n, _, _ := magazine.Alloc(h, m, cpu, class)
					return g, n
				})
			}
			for _, b := range p.out() {
				keepsApart(t, p.heap(), m, func(h api.Heap, m api.Memory) (api.Heap, api.Memory) {
					g, n, _ := magazine.Free(h, m, cpu, b)
					return g, n
				})
			}
			keepsApart(t, p.heap(), m, func(h api.Heap, _ api.Memory) (api.Heap, api.Memory) {
				g, _ := magazine.Drain(h, cpu)
				return g, api.Memory{}
			})
		}
	}
}

// keepsApart asks a call twice of a heap and a memory that have room, and fails if these change, or if what is answered shares memory with anything.
func keepsApart(t *testing.T, h api.Heap, m api.Memory, call func(api.Heap, api.Memory) (api.Heap, api.Memory)) {
	t.Helper()
	in, mem := given(h), api.Memory{Words: roomy(m.Words, 55), Live: roomy(m.Live, true), Fault: m.Fault}
	before, words, live := all(in), slices.Clone(mem.Words[:cap(mem.Words)]), slices.Clone(mem.Live[:cap(mem.Live)])
	first, one := call(in, mem)
	second, two := call(in, mem)
	if !alike(all(in), before) || !slices.Equal(mem.Words[:cap(mem.Words)], words) || !slices.Equal(mem.Live[:cap(mem.Live)], live) {
		t.Fatalf("%v is changed: %v", before, all(in))
	}
	mustStandAlone(t, second)
	want, held := all(second), double(two)
	scrub(in, mem, 70)
	scrub(first, one, 71)
	if !alike(all(second), want) || !twin(two, held) {
		t.Fatalf("what is told of %v is shared: %v, then %v", h, want, all(second))
	}
}

// P10.3, P10.4: from one heap several others come, and none of them hangs on what is done to another.
func TestBranches(t *testing.T) {
	h, m := sound(), soundMemory()
	a, n, x := mustAlloc(t, h, m, 0, 0)
	b, o := mustFree(t, a, n, 1, api.Block{At: 92})
	c, q := mustFree(t, a, n, 0, x)
	d := mustDrain(t, c, 0)
	e, r, y := mustAlloc(t, a, n, 0, 0)
	for i, z := range []struct {
		h    api.Heap
		m    api.Memory
		want []int
	}{{h, m, []int{82, 80, 88, 84}}, {a, n, []int{82, 80, 88}}, {b, o, []int{82, 80, 88}}, {c, q, []int{82, 80, 88, 84}}, {d, q, nil}, {e, r, []int{82, 80}}} {
		var got []int
		for _, b := range z.h.Mags[0][0] {
			got = append(got, b.At)
		}
		if !slices.Equal(got, z.want) || magazine.Fits(z.h, z.m) != api.OK {
			t.Errorf("of %d %v waits, not %v", i, got, z.want)
		}
	}
	if x != (api.Block{At: 84}) || y != (api.Block{At: 88}) {
		t.Errorf("%v, %v", x, y)
	}
}
