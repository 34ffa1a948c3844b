package magazine_test

import (
	"slices"
	"testing"

	"afterglow/api"
	"afterglow/magazine"
	"afterglow/slab"
)

// P10.1: there is a heap of one to eight CPUs and of each slab that there is; its pages are free, and nothing waits.
func TestNew(t *testing.T) {
	for cpus := -2; cpus <= 11; cpus++ {
		for base := -32; base <= 4128; base += 8 {
			for _, pages := range []int{-1, 0, 1, 2, 5, 63, 64, 65} {
				h, e := magazine.New(cpus, base, pages)
				if cpus < 1 || cpus > 8 || base < 0 || base%16 != 0 || pages < 0 || pages > 64 || base > 4096-16*pages {
					if e != api.ErrArg || !empty(h) {
						t.Fatalf("New(%d, %d, %d): %v, %d", cpus, base, pages, h, e)
					}
					continue
				}
				want := api.Heap{Slab: api.Slab{Pool: api.Pool{Base: base, Pages: pages, Free: down(pages)}}, Mags: make([]api.Magazine, cpus)}
				if e != api.OK || !alike(h, want) || magazine.Check(h) != api.OK {
					t.Fatalf("New(%d, %d, %d): %v, %d", cpus, base, pages, h, e)
				}
			}
		}
	}
	for _, n := range edges() {
		if h, e := magazine.New(n, 16, 1); e != api.ErrArg || !empty(h) {
			t.Errorf("New(%d, 16, 1): %v, %d", n, h, e)
		}
		if h, e := magazine.New(2, n+n%2+1, 1); e != api.ErrArg || !empty(h) {
			t.Errorf("New(2, %d, 1): %v, %d", n+n%2+1, h, e)
		}
		if h, e := magazine.New(2, 16, n); n != 16 && n != 64 && (e != api.ErrArg || !empty(h)) {
			t.Errorf("New(2, 16, %d): %v, %d", n, h, e)
		}
		for _, m := range edges() {
			if h, e := magazine.New(n, m, 0); e != api.ErrArg || !empty(h) {
				t.Errorf("New(%d, %d, 0): %v, %d", n, m, h, e)
			}
		}
	}
}

// P10.1: heaps that are asked for twice share nothing.
func TestNewIsNew(t *testing.T) {
	a, b := mustHeap(t, 3, 32, 5), mustHeap(t, 3, 32, 5)
	mustStandAlone(t, a)
	scrub(a, api.Memory{}, 9)
	if !alike(b, mustHeap(t, 3, 32, 5)) {
		t.Errorf("New shares its lists: %v", b)
	}
}

// mustHeap makes a heap.
func mustHeap(t *testing.T, cpus, base, pages int) api.Heap {
	t.Helper()
	h, _ := mustNew(t, cpus, base, pages, 1)
	return h
}

// P10.1: a heap may be with blocks of each class that are taken, and wait once, no more than four in a row.
func TestCheck(t *testing.T) {
	var c chance
	for range 2000 {
		if h := c.somePlain(64).heap(); magazine.Check(h) != api.OK {
			t.Fatalf("Check(%v): %d", h, magazine.Check(h))
		}
	}
	for _, h := range []api.Heap{
		sound(),
		given(sound()),
		{Mags: make([]api.Magazine, 1)},
		{Mags: make([]api.Magazine, 8)},
		{Slab: api.Slab{Cuts: []api.Cut{}, Pool: api.Pool{Base: 4096, Free: []int{}}}, Mags: []api.Magazine{{{}, {}, {}, {}}}},
		changed(func(h *api.Heap) { h.Mags = append(h.Mags, make([]api.Magazine, 5)...) }),
		changed(func(h *api.Heap) { h.Mags = make([]api.Magazine, 1) }),
		changed(func(h *api.Heap) { h.Mags[2][3] = []api.Block{{At: 48, Class: 3}} }),
		changed(func(h *api.Heap) { h.Mags[1][0] = append(h.Mags[1][0], api.Block{At: 92}) }),
		changed(func(h *api.Heap) { slices.Reverse(h.Mags) }),
		changed(func(h *api.Heap) { slices.Reverse(h.Mags[0][0]) }),
		whole(4, 3),
	} {
		if e := magazine.Check(h); e != api.OK {
			t.Errorf("Check(%v): %d", h, e)
		}
	}
	for _, h := range append(noHeaps(), whole(5, 3), whole(3, 0), whole(1, -1), whole(1, 4)) {
		if e := magazine.Check(h); e != api.ErrHeap {
			t.Errorf("Check(%v): %d", h, e)
		}
	}
}

// whole is a heap of pages that are cut for one great block each, and wait, so many at one CPU, in the row of a class, or of none.
func whole(pages, class int) api.Heap {
	h := api.Heap{Slab: api.Slab{Pool: api.Pool{Base: 4096 - 16*pages, Pages: pages}}, Mags: make([]api.Magazine, 2)}
	for page := range pages {
		h.Slab.Cuts = append(h.Slab.Cuts, api.Cut{Page: page, Class: 3})
		b := api.Block{At: 4096 - 16*pages + 16*page, Class: 3}
		if class < 0 || class > 3 {
			b.Class = class
		}
		h.Mags[1][class&3] = append(h.Mags[1][class&3], b)
	}
	return h
}

// P10.1: of all blocks that a row could have just those may wait there that are taken, wait nowhere else, and are of its class.
func TestCheckBlocks(t *testing.T) {
	var c chance
	for range 60 {
		p := c.somePlain(3)
		for class := range 4 {
			for _, b := range p.near() {
				h := p.heap()
				cpu := c.below(len(h.Mags))
				want := api.ErrHeap
				if b.Class == class && p.has(b) && len(h.Mags[cpu][class]) < 4 {
					want = api.OK
				}
				row := &h.Mags[cpu][class]
				*row = slices.Insert(*row, c.below(len(*row)+1), b)
				if e := magazine.Check(h); e != want {
					t.Fatalf("Check(%v), where %v waits: %d", h, b, e)
				}
			}
		}
	}
}

// P10.1: two heaps are the same if each part is; nil and empty are one; also of those that may not be.
func TestSame(t *testing.T) {
	others := append(noHeaps(),
		changed(func(h *api.Heap) { h.Slab.Pool.Base = 48 }),
		changed(func(h *api.Heap) { h.Slab.Cuts[1].Class = 2 }),
		changed(func(h *api.Heap) { h.Slab.Cuts[0].Free = nil }),
		changed(func(h *api.Heap) { h.Mags = h.Mags[:2] }),
		changed(func(h *api.Heap) { h.Mags = append(h.Mags, api.Magazine{}) }),
		changed(func(h *api.Heap) { slices.Reverse(h.Mags) }),
		changed(func(h *api.Heap) { slices.Reverse(h.Mags[0][0]) }),
		changed(func(h *api.Heap) { slices.Reverse(h.Mags[1][0]) }),
		changed(func(h *api.Heap) { h.Mags[0][0] = h.Mags[0][0][:3] }),
		changed(func(h *api.Heap) { h.Mags[0][0] = h.Mags[0][0][1:] }),
		changed(func(h *api.Heap) { h.Mags[0][0], h.Mags[1][0] = h.Mags[1][0], h.Mags[0][0] }),
		changed(func(h *api.Heap) { h.Mags[2][3] = []api.Block{{At: 48, Class: 3}} }),
		changed(func(h *api.Heap) { h.Mags[0][1][0].Class = 0 }),
		changed(func(h *api.Heap) { h.Mags[0][1][0].At = 40 }),
	)
	if !magazine.Same(sound(), sound()) || !magazine.Same(given(sound()), sound()) {
		t.Error("a heap is not the same as a copy")
	}
	for _, h := range others {
		if magazine.Same(h, sound()) || magazine.Same(sound(), h) {
			t.Errorf("%v is the same as %v", h, sound())
		}
		if !magazine.Same(h, h) {
			t.Errorf("%v is not the same as itself", h)
		}
	}
	for i, a := range others {
		for _, b := range others[max(0, i-5):] {
			if got := magazine.Same(a, b); got != alike(a, b) {
				t.Fatalf("Same(%v, %v): %v", a, b, got)
			}
		}
	}
	bare := changed(func(h *api.Heap) {
		h.Mags[2][3], h.Mags[0][2], h.Slab.Cuts[1].Free = []api.Block{}, []api.Block{}, []int{}
	})
	if !magazine.Same(bare, sound()) || !magazine.Same(sound(), bare) || !magazine.Same(api.Heap{}, api.Heap{Mags: []api.Magazine{}}) {
		t.Error("nil and empty are not the same")
	}
}

// P10.1: heaps differ where their slabs do, as slab tells it, and in each row of each CPU.
func TestSameRows(t *testing.T) {
	var c chance
	for range 100 {
		a, b := c.somePlain(3).heap(), c.somePlain(3).heap()
		if got := magazine.Same(a, b); got != alike(a, b) {
			t.Fatalf("Same(%v, %v): %v", a, b, got)
		}
		b.Mags = a.Mags
		if got := magazine.Same(a, b); got != slab.Same(a.Slab, b.Slab) {
			t.Fatalf("Same(%v, %v): %v", a, b, got)
		}
		for cpu := range a.Mags {
			for class := range 4 {
				b := all(a)
				b.Mags[cpu][class] = append(b.Mags[cpu][class], api.Block{})
				if magazine.Same(a, b) || magazine.Same(b, a) {
					t.Fatalf("Same(%v, %v)", a, b)
				}
			}
		}
	}
}
