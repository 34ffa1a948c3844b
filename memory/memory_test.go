package memory_test

import (
	"math"
	"testing"

	"afterglow/api"
	"afterglow/memory"
)

// P2.1: New makes so many words, all free, of 0, and no fault.
func TestNew(t *testing.T) {
	for words := 1; words <= api.MaxWords; words++ {
		m, e := memory.New(words)
		if e != api.OK || len(m.Words) != words || len(m.Live) != words || m.Fault {
			t.Fatalf("New(%d): %d words, %d lives, %t, %d", words, len(m.Words), len(m.Live), m.Fault, e)
		}
		for i := range words {
			if m.Words[i] != 0 || m.Live[i] {
				t.Fatalf("New(%d): the word %d holds %d, %t", words, i, m.Words[i], m.Live[i])
			}
		}
		if e := memory.Check(m); e != api.OK {
			t.Fatalf("New(%d) may not be: %d", words, e)
		}
	}
	for _, words := range []int{0, -1, -8, api.MaxWords + 1, 1 << 31, 1 << 32, 1<<32 + 1, math.MaxInt, math.MinInt, math.MinInt + 1} {
		if m, e := memory.New(words); e != api.ErrArg || !empty(m) {
			t.Errorf("New(%d): %s, %d", words, show(m), e)
		}
	}
}

// P2.1: what New tells is of its own each time.
func TestNewApart(t *testing.T) {
	a, _ := memory.New(3)
	scrub(a)
	b, _ := memory.New(3)
	mustBe(t, "New", b, spell("..."))
}

// P2.1: a memory may be, if it has words, as many lives, and 0 or Poison in each free word; a live one holds whatever it holds.
func TestCheck(t *testing.T) {
	for _, w := range values() {
		for _, live := range []bool{false, true} {
			for _, fault := range []bool{false, true} {
				for at := range 3 {
					m := spell("1.x")
					m.Words[at], m.Live[at], m.Fault = w, live, fault
					want := api.OK
					if !live && w != 0 && w != api.Poison {
						want = api.ErrMemory
					}
					if e := memory.Check(m); e != want {
						t.Errorf("Check with %#x, %t at %d: %d, not %d", w, live, at, e, want)
					}
				}
			}
		}
	}
	for name, m := range noMemories() {
		if e := memory.Check(m); e != api.ErrMemory {
			t.Errorf("Check, %s: %d", name, e)
		}
	}
	most := api.Memory{Words: make([]uint64, api.MaxWords), Live: make([]bool, api.MaxWords)}
	for _, m := range []api.Memory{most, faulty(most), spell("."), spell("x"), spell("7"), roomy(spell("7"))} {
		if e := memory.Check(m); e != api.OK {
			t.Errorf("Check: %d", e)
		}
	}
}

// P2.1: Same asks for each part, of what may not be a memory, too.
func TestSame(t *testing.T) {
	l := []api.Memory{
		{},
		{Fault: true},
		{Words: []uint64{0}},
		{Live: []bool{false}},
		{Words: []uint64{1}, Live: []bool{false}},
		spell("."), spell("0"), spell("x"), spell("1"),
		faulty(spell("1")),
		spell("11"), spell("1."), spell(".1"), spell("111"), spell("112"), spell("121"), spell("211"),
		{Words: []uint64{0, 0}, Live: []bool{true}},
		{Words: []uint64{0}, Live: []bool{true, true}},
		{Words: []uint64{0}, Live: []bool{true, false}},
	}
	for i, a := range l {
		for j, b := range l {
			if is := memory.Same(a, roomy(b)); is != (i == j) {
				t.Errorf("Same(%s, %s): %t (%d, %d)", show(a), show(b), is, i, j)
			}
		}
	}
	if !memory.Same(api.Memory{}, api.Memory{Words: []uint64{}, Live: []bool{}}) {
		t.Error("nil and empty are not the same")
	}
}

// P2.1: Check and Same leave what is handed in as it is.
func TestAskedUnchanged(t *testing.T) {
	m := roomy(faulty(spell("12.x")))
	before := whole(m)
	memory.Check(m)
	memory.Same(m, m)
	memory.Spans(m)
	if !same(whole(m), before) {
		t.Errorf("%s is changed: %s", show(before), show(whole(m)))
	}
}

// P2.1 to P2.4: what may not be a memory is told ahead of all else, and nothing besides.
func TestNoMemoryFirst(t *testing.T) {
	odd := []int{math.MinInt, -1, 0, 1, math.MaxInt}
	for name, m := range noMemories() {
		for _, from := range odd {
			for _, many := range odd {
				if n, e := memory.Live(m, from, many); e != api.ErrMemory || !empty(n) {
					t.Errorf("Live, %s: %s, %d", name, show(n), e)
				}
				if n, e := memory.Free(m, from, many); e != api.ErrMemory || !empty(n) {
					t.Errorf("Free, %s: %s, %d", name, show(n), e)
				}
			}
			for kind := range 5 {
				a := api.Access{Kind: kind, At: from, New: 1}
				if n, g, e := memory.Step(m, a); e != api.ErrMemory || !empty(n) || g != (api.Got{}) {
					t.Errorf("Step, %s: %s, %v, %d", name, show(n), g, e)
				}
				if n, g, e := memory.Run(m, a, a); e != api.ErrMemory || !empty(n) || len(g) != 0 {
					t.Errorf("Run, %s: %s, %v, %d", name, show(n), g, e)
				}
			}
		}
		if n, g, e := memory.Run(m); e != api.ErrMemory || !empty(n) || len(g) != 0 {
			t.Errorf("Run of none, %s: %s, %v, %d", name, show(n), g, e)
		}
		if l := memory.Spans(m); len(l) != 0 {
			t.Errorf("Spans, %s: %v", name, l)
		}
	}
}
