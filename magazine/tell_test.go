package magazine_test

import (
	"slices"
	"testing"

	"afterglow/api"
	"afterglow/magazine"
)

// P10.2, P10.5: what is told of a heap, written out.
func TestTold(t *testing.T) {
	if l := magazine.Out(sound()); !slices.Equal(l, soundOut()) {
		t.Errorf("Out: %v", l)
	}
	if a, b, c := magazine.Words(sound()); a != 22 || b != 20 || c != 22 {
		t.Errorf("Words: %d, %d, %d", a, b, c)
	}
	if e := magazine.Fits(sound(), soundMemory()); e != api.OK {
		t.Errorf("Fits: %d", e)
	}
	full := changed(func(h *api.Heap) {
		h.Slab.Pool.Free = nil
		h.Slab.Cuts = slices.Insert(h.Slab.Cuts, 2, api.Cut{Page: 2, Class: 2})
		h.Slab.Cuts[0].Free = nil
		h.Mags[2][3] = []api.Block{{At: 48, Class: 3}}
	})
	for cpu, row := range [][]bool{{false, false, true, true}, {false, false, true, true}, {false, true, true, false}} {
		for class, want := range row {
			if got := magazine.Bare(full, cpu, class); got != want {
				t.Errorf("Bare(%v, %d, %d): %v", full, cpu, class, got)
			}
			if magazine.Bare(sound(), cpu, class) {
				t.Errorf("Bare(%v, %d, %d)", sound(), cpu, class)
			}
		}
	}
}

// P10.2, P10.5: of no pages; of one of which nothing is taken, all is handed out, or all waits.
func TestToldEdges(t *testing.T) {
	for _, h := range []api.Heap{{Mags: make([]api.Magazine, 1)}, {Slab: api.Slab{Pool: api.Pool{Base: 4096}}, Mags: make([]api.Magazine, 8)}, mustHeap(t, 3, 16, 3), mustHeap(t, 8, 3072, 64)} {
		a, b, c := magazine.Words(h)
		if l := magazine.Out(h); len(l) != 0 || a != 0 || b != 0 || c != 16*h.Slab.Pool.Pages {
			t.Errorf("Out, Words of %v: %v, %d, %d, %d", h, l, a, b, c)
		}
		for class := range 4 {
			if got := magazine.Bare(h, 0, class); got != (c == 0) {
				t.Errorf("Bare(%v, 0, %d): %v", h, class, got)
			}
		}
	}
	h := whole(4, 3)
	if a, b, c := magazine.Words(h); len(magazine.Out(h)) != 0 || a != 0 || b != 64 || c != 0 {
		t.Errorf("Words(%v): %d, %d, %d", h, a, b, c)
	}
	if magazine.Bare(h, 1, 3) || !magazine.Bare(h, 0, 3) || !magazine.Bare(h, 1, 2) {
		t.Errorf("Bare of %v", h)
	}
	h.Mags[1] = api.Magazine{}
	if a, b, c := magazine.Words(h); len(magazine.Out(h)) != 4 || a != 64 || b != 0 || c != 0 {
		t.Errorf("Words(%v): %d, %d, %d", h, a, b, c)
	}
	great := api.Heap{Slab: api.Slab{Pool: api.Pool{Base: 3072, Pages: 64}}, Mags: make([]api.Magazine, 8)}
	for page := range 64 {
		great.Slab.Cuts = append(great.Slab.Cuts, api.Cut{Page: page})
	}
	a, b, c := magazine.Words(great)
	if l := magazine.Out(great); len(l) != 512 || l[0] != (api.Block{At: 3072}) || l[511] != (api.Block{At: 4094}) || a != 1024 || b != 0 || c != 0 {
		t.Errorf("Out, Words of all: %v, %d, %d, %d", l, a, b, c)
	}
}

// P10.2 to P10.5: what may not be has ErrHeap ahead of all else, and nothing is told of it.
func TestNoHeaps(t *testing.T) {
	memories := append(noFits()[:8], soundMemory())
	for _, h := range noHeaps() {
		if a, b, c := magazine.Words(h); len(magazine.Out(h)) != 0 || a != 0 || b != 0 || c != 0 {
			t.Fatalf("Out, Words of %v: %v, %d, %d, %d", h, magazine.Out(h), a, b, c)
		}
		for _, cpu := range []int{-1, 0, 1, 2, 3, 9} {
			for _, class := range []int{-1, 0, 1, 2, 3, 4} {
				if magazine.Bare(h, cpu, class) {
					t.Fatalf("Bare(%v, %d, %d)", h, cpu, class)
				}
			}
			if g, e := magazine.Drain(h, cpu); e != api.ErrHeap || !empty(g) {
				t.Fatalf("Drain(%v, %d): %v, %d", h, cpu, g, e)
			}
			for _, m := range memories {
				mustRefuse(t, h, m, cpu, api.ErrHeap)
			}
		}
	}
}

// mustRefuse fails unless each call of a heap and a memory tells this error alone.
func mustRefuse(t *testing.T, h api.Heap, m api.Memory, cpu int, want api.Errno) {
	t.Helper()
	if e := magazine.Fits(h, m); e != want {
		t.Fatalf("Fits(%v, ..): %d, not %d", h, e, want)
	}
	for _, class := range []int{-1, 0, 1, 2, 3, 4} {
		if g, n, b, e := magazine.Alloc(h, m, cpu, class); e != want || !empty(g) || !void(n) || b != (api.Block{}) {
			t.Fatalf("Alloc(%v, .., %d, %d): %v, %v, %v, %d, not %d", h, cpu, class, g, n, b, e, want)
		}
	}
	for _, b := range []api.Block{{}, {At: 1}, {At: 92}, {At: 48, Class: 3}, {At: 80}, {At: 40, Class: 5}} {
		if g, n, e := magazine.Free(h, m, cpu, b); e != want || !empty(g) || !void(n) {
			t.Fatalf("Free(%v, .., %d, %v): %v, %v, %d, not %d", h, cpu, b, g, n, e, want)
		}
	}
}

// P10.2 to P10.4: of a memory that does not fit ErrFit is told, ahead of all that is wrong besides.
func TestNoFits(t *testing.T) {
	for _, m := range noFits() {
		for _, cpu := range []int{-1, 0, 2, 3} {
			mustRefuse(t, sound(), m, cpu, api.ErrFit)
		}
	}
	full := whole(2, 3)
	for _, m := range []api.Memory{{}, {Words: make([]uint64, 4080), Live: make([]bool, 4080)}, {Words: make([]uint64, 4095), Live: make([]bool, 4095)}} {
		mustRefuse(t, full, m, 0, api.ErrFit)
	}
}

// P10.2: whatever the words besides hold, and however many there are, and whatever live words hold, a memory fits, a fault or not.
func TestFits(t *testing.T) {
	var c chance
	for range 400 {
		p := c.somePlain(6)
		h := p.heap()
		for _, behind := range []int{0, 1, 16, 4096} {
			m := c.memory(p, behind)
			if e := magazine.Fits(h, m); e != api.OK {
				t.Fatalf("Fits(%v, %v): %d", h, m, e)
			}
			for range 8 {
				at := c.below(len(m.Words))
				n := double(m)
				c.put(n, at, !m.Live[at])
				want := api.OK
				if at >= p.base && at < p.base+len(p.words) {
					want = api.ErrFit
				}
				if e := magazine.Fits(h, n); e != want {
					t.Fatalf("Fits(%v, ..), the word %d turned: %d, not %d", h, at, e, want)
				}
			}
		}
		if m := c.memory(p, 0); len(p.words) > 0 {
			m.Words, m.Live = m.Words[:len(m.Words)-1], m.Live[:len(m.Live)-1]
			if e := magazine.Fits(h, m); e != api.ErrFit {
				t.Fatalf("Fits(%v, ..), a word less: %d", h, e)
			}
		}
	}
}

// P10.2: a pool without pages has no words: any memory that may be has all of them.
func TestFitsNoPages(t *testing.T) {
	for base := 0; base <= 4096; base += 16 {
		h := mustHeap(t, 2, base, 0)
		for _, words := range []int{1, 16, 100, 4096} {
			m := api.Memory{Words: make([]uint64, words), Live: make([]bool, words)}
			if e := magazine.Fits(h, m); e != api.OK {
				t.Fatalf("Fits(no pages at %d, %d words): %d", base, words, e)
			}
			if m.Words[words-1] = 1; magazine.Fits(h, m) != api.ErrFit {
				t.Fatalf("Fits(no pages at %d, what is no memory): %d", base, magazine.Fits(h, m))
			}
			if m.Live[words-1] = true; magazine.Fits(h, m) != api.OK {
				t.Fatalf("Fits(no pages at %d, a live word): %d", base, magazine.Fits(h, m))
			}
		}
		if e := magazine.Fits(h, api.Memory{}); e != api.ErrFit {
			t.Fatalf("Fits(no pages at %d, no memory): %d", base, e)
		}
	}
}

// P10.5: where there is no such CPU, or class, it is not bare, however bare the heap is.
func TestBareWrong(t *testing.T) {
	for _, h := range []api.Heap{sound(), whole(3, 3), mustHeap(t, 1, 0, 0), mustHeap(t, 8, 16, 0)} {
		for _, cpu := range noCpus(len(h.Mags)) {
			for class := range 4 {
				if cpu >= len(h.Mags) || cpu < 0 {
					if magazine.Bare(h, cpu, class) {
						t.Errorf("Bare(%v, %d, %d)", h, cpu, class)
					}
				}
			}
		}
		for _, class := range noClasses() {
			for cpu := -1; cpu <= len(h.Mags); cpu++ {
				if magazine.Bare(h, cpu, class) {
					t.Errorf("Bare(%v, %d, %d)", h, cpu, class)
				}
			}
		}
	}
}

// P10.2, P10.5: any heap, as it is told otherwise.
func TestToldPlain(t *testing.T) {
	var c chance
	bare := 0
	for range 1500 {
		p := c.somePlain(7)
		h := p.heap()
		if l := magazine.Out(h); !slices.Equal(l, p.out()) {
			t.Fatalf("Out(%v): %v, not %v", h, l, p.out())
		}
		if x, y, z := magazine.Words(h); x != p.count(outside) || y != p.count(waiting) || z != p.count(nobody) {
			t.Fatalf("Words(%v): %d, %d, %d", h, x, y, z)
		}
		for cpu := range h.Mags {
			for class := range 4 {
				_, e := p.copy().alloc(cpu, class)
				if got := magazine.Bare(h, cpu, class); got != (e == api.ErrFull) {
					t.Fatalf("Bare(%v, %d, %d): %v", h, cpu, class, got)
				}
				if e == api.ErrFull {
					bare++
				}
			}
		}
	}
	if bare < 300 {
		t.Errorf("%d times it is bare", bare)
	}
}

// P10.2, P10.5: what is asked of stays as it is, the room behind it, too, and what is told is new each time.
func TestToldApart(t *testing.T) {
	var c chance
	for range 200 {
		p := c.somePlain(6)
		h, m := given(p.heap()), c.memory(p, 5)
		before, held := all(h), double(m)
		first, second := magazine.Out(h), magazine.Out(h)
		magazine.Check(h)
		magazine.Same(h, h)
		magazine.Words(h)
		magazine.Fits(h, m)
		magazine.Bare(h, 0, c.below(4))
		if !alike(all(h), before) || !twin(m, held) {
			t.Fatalf("%v is changed: %v", before, all(h))
		}
		want := slices.Clone(second)
		scrub(h, m, 70)
		fill(first, api.Block{At: 71})
		if !slices.Equal(second, want) {
			t.Fatalf("Out is shared: %v, then %v", want, second)
		}
	}
}
