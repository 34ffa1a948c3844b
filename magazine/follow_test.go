package magazine_test

import (
	"fmt"
	"testing"

	"afterglow/api"
	"afterglow/magazine"
	"afterglow/size"
)

// world is a heap, a memory that fits it, and the heap told otherwise.
type world struct {
	h api.Heap
	m api.Memory
	p *plain
}

// behind are all worlds that come of one by a change.
func (w world) behind(t *testing.T, classes []int) []world {
	t.Helper()
	var l []world
	for cpu := range w.p.rows {
		for _, class := range classes {
			if h, m, _, e := magazine.Alloc(w.h, w.m, cpu, class); e == api.OK {
				p := w.p.copy()
				p.alloc(cpu, class)
				l = append(l, world{h, m, p})
			}
		}
		for _, b := range magazine.Out(w.h) {
			h, m := mustFree(t, w.h, w.m, cpu, b)
			p := w.p.copy()
			p.give(cpu, b)
			l = append(l, world{h, m, p})
		}
		p := w.p.copy()
		p.drain(cpu)
		l = append(l, world{mustDrain(t, w.h, cpu), w.m, p})
	}
	return l
}

// mustHold fails unless the heap may be, the memory fits it, it is as it is told otherwise, its words are all of the pool, and what is handed out lies apart.
func (w world) mustHold(t *testing.T) {
	t.Helper()
	if magazine.Check(w.h) != api.OK || magazine.Fits(w.h, w.m) != api.OK || !alike(w.h, w.p.heap()) {
		t.Fatalf("%v, %v: %d, %d, not %v", w.h, w.m, magazine.Check(w.h), magazine.Fits(w.h, w.m), w.p.heap())
	}
	out := magazine.Out(w.h)
	words, last := 0, -1
	for _, b := range out {
		if words += wide()[b.Class]; b.At <= last {
			t.Fatalf("Out(%v): %v", w.h, out)
		}
		last = b.At
	}
	x, y, z := magazine.Words(w.h)
	if !size.Apart(out...) || x != words || x+y+z != 16*w.h.Slab.Pool.Pages {
		t.Fatalf("%v, with %v handed out: %d, %d, %d words", w.h, out, x, y, z)
	}
}

// mustGive fails unless each CPU has a block of each class just if it is not bare, the words of which were free, and unless what is handed out, and taken back, is handed out again at that CPU.
func (w world) mustGive(t *testing.T) {
	t.Helper()
	for cpu := range w.h.Mags {
		for class := range 4 {
			h, m, b, e := magazine.Alloc(w.h, w.m, cpu, class)
			if magazine.Bare(w.h, cpu, class) != (e == api.ErrFull) || e != api.OK && e != api.ErrFull {
				t.Fatalf("Alloc(%v, .., %d, %d): %d", w.h, cpu, class, e)
			}
			if e == api.ErrFull {
				continue
			}
			for n := range wide()[class] {
				if w.m.Live[b.At+n] || !m.Live[b.At+n] || m.Words[b.At+n] != 0 {
					t.Fatalf("Alloc(%v, %v, %d, %d): %v, %v", w.h, w.m, cpu, class, b, m)
				}
			}
			mustComeAgain(t, h, m, b)
		}
	}
	for _, b := range magazine.Out(w.h) {
		mustComeAgain(t, w.h, w.m, b)
	}
}

// mustComeAgain fails unless a block, taken back at any CPU, is handed out again there.
func mustComeAgain(t *testing.T, h api.Heap, m api.Memory, b api.Block) {
	t.Helper()
	for cpu := range h.Mags {
		g, n := mustFree(t, h, m, cpu, b)
		if magazine.Bare(g, cpu, b.Class) || n.Words[b.At] != api.Poison || n.Live[b.At] {
			t.Fatalf("Free(%v, .., %d, %v): %v, %v", h, cpu, b, g, n)
		}
		if _, _, again := mustAlloc(t, g, n, cpu, b.Class); again != b {
			t.Fatalf("%v, taken back at %d, comes again as %v", b, cpu, again)
		}
	}
}

// P10.6: all heaps that come of some small ones, by all changes. (One page that is cut for great blocks alone, and eight CPUs: it is free, handed out, or waits at one of them.)
func TestWhatever(t *testing.T) {
	for _, x := range []struct {
		cpus, pages, heaps int
		classes            []int
	}{
		{2, 0, 1, []int{0, 1, 2, 3}},
		{1, 1, 179, []int{1, 2, 3}},
		{2, 1, 21, []int{2, 3}},
		{8, 1, 10, []int{3}},
		{1, 2, 214, []int{2, 3}},
		{3, 2, 29, []int{3}},
		{1, 6, 9583, []int{3}},
	} {
		h, m := mustNew(t, x.cpus, 32, x.pages, 32+16*x.pages)
		l := []world{{h, m, plainNew(x.cpus, 32, x.pages)}}
		seen := map[string]bool{fmt.Sprint(h): true}
		for i := 0; i < len(l); i++ {
			l[i].mustHold(t)
			l[i].mustGive(t)
			for _, w := range l[i].behind(t, x.classes) {
				if name := fmt.Sprint(w.h); !seen[name] {
					seen[name] = true
					l = append(l, w)
				}
			}
		}
		if len(l) != x.heaps {
			t.Errorf("%d heaps of %d CPUs and %d pages are reached, not %d", len(l), x.cpus, x.pages, x.heaps)
		}
	}
}

// P10.6: any heap, through rows of changes, whatever is stored in what is handed out.
func TestRows(t *testing.T) {
	var c chance
	for range 40 {
		p := c.somePlain(5)
		w := world{p.heap(), c.memory(p, 4), p}
		for range 25 {
			w.mustHold(t)
			w.mustGive(t)
			l := w.behind(t, []int{0, 1, 2, 3})
			w = l[c.below(len(l))]
			for at, live := range w.m.Live {
				if live && c.below(4) == 0 {
					w.m.Words[at] = uint64(c.below(1000))
				}
			}
		}
	}
}

// P10.6: the greatest heap, filled by all CPUs in turn with each class, taken back by others, and drained: as bare as it was.
func TestGreat(t *testing.T) {
	for class, w := range wide() {
		h, m := mustNew(t, 8, 3072, 64, 4096)
		for n := range 1024 / w {
			h, m, _ = mustAlloc(t, h, m, n/2%8, class)
		}
		for cpu := range 8 {
			if _, _, _, e := magazine.Alloc(h, m, cpu, class); e != api.ErrFull || !magazine.Bare(h, cpu, class) {
				t.Fatalf("Alloc of nothing left, at %d: %d", cpu, e)
			}
		}
		for n, b := range magazine.Out(h) {
			h, m = mustFree(t, h, m, n%8, b)
		}
		for cpu := range 8 {
			h = mustDrain(t, h, cpu)
		}
		if a, b, c := magazine.Words(h); a != 0 || b != 0 || c != 1024 || len(h.Slab.Cuts) != 0 || magazine.Fits(h, m) != api.OK {
			t.Errorf("drained: %v, %d, %d, %d", h, a, b, c)
		}
	}
}
