package memory_test

import (
	"testing"

	"afterglow/api"
	"afterglow/memory"
)

// P2.5: what is stored, or swapped in, is loaded, whatever is done to other words, and whatever is a fault.
func TestStoredIsLoaded(t *testing.T) {
	load := api.Access{Kind: api.AcLoad, At: 1}
	for _, w := range values() {
		for _, put := range []api.Access{
			{Kind: api.AcStore, At: 1, New: w},
			{Kind: api.AcSwap, At: 1, Old: 2, New: w},
		} {
			m, _, e := memory.Run(spell("123x."), put,
				api.Access{Kind: api.AcStore, At: 0, New: ^w},
				api.Access{Kind: api.AcSwap, At: 2, Old: 3, New: ^w},
				api.Access{Kind: api.AcStore, At: 3, New: ^w},
				api.Access{Kind: api.AcSwap, At: 9, New: ^w},
				api.Access{Kind: api.AcSwap, At: 1, Old: ^w, New: 5})
			if e != api.OK {
				t.Fatal(e)
			}
			if m, e = memory.Free(m, 0, 1); e != api.OK {
				t.Fatal(e)
			}
			if m, e = memory.Live(m, 3, 2); e != api.OK {
				t.Fatal(e)
			}
			if _, got, e := memory.Step(m, load); e != api.OK || got != (api.Got{Value: w, Done: true}) {
				t.Errorf("%#x is put, %v is loaded: %d", w, got, e)
			}
		}
	}
}

// P2.5: freed, and live again, a word holds 0, whatever it held.
func TestLiveAgain(t *testing.T) {
	for _, w := range values() {
		m, _, e := memory.Step(spell("1000"), api.Access{Kind: api.AcStore, At: 2, New: w})
		if e != api.OK {
			t.Fatal(e)
		}
		if m, e = memory.Free(m, 1, 3); e != api.OK || m.Words[2] != api.Poison {
			t.Fatal(m, e)
		}
		if m, e = memory.Live(m, 2, 1); e != api.OK {
			t.Fatal(e)
		}
		mustBe(t, "freed, and live again", m, spell("1x0x"))
		if _, got, e := memory.Step(m, api.Access{Kind: api.AcLoad, At: 2}); e != api.OK || got != (api.Got{Done: true}) {
			t.Errorf("freed of %#x, and live again: %v, %d", w, got, e)
		}
	}
}

// P2.5: of long rows of all that can be done: a step changes one word at most, and no live; a fault stays one; what is told is as the chapter says word by word.
func TestLongRows(t *testing.T) {
	c := chance(5)
	for range 60 {
		words := 1 + c.below(12)
		m, _ := memory.New(words)
		p := plainOf(m)
		for range 120 {
			n := m
			if from, many := c.below(words+2)-1, c.below(5); c.below(3) > 0 {
				a := someAccesses(&c, words, 1)[0]
				got, e := api.Got{}, api.OK
				if n, got, e = memory.Step(m, a); e != api.OK || got != p.make(a) {
					t.Fatalf("Step(%s, %v): %v, %d", show(m), a, got, e)
				}
				oneAtMost(t, m, n)
			} else if e := api.OK; c.below(3) > 0 {
				if n, e = memory.Live(m, from, many); e != p.turn(from, many, true) {
					t.Fatalf("Live(%s, %d, %d): %d", show(m), from, many, e)
				}
			} else if n, e = memory.Free(m, from, many); e != p.turn(from, many, false) {
				t.Fatalf("Free(%s, %d, %d): %d", show(m), from, many, e)
			}
			if empty(n) {
				n = m
			}
			mustBe(t, "behind "+show(m), n, p.memory())
			if m.Fault && !n.Fault {
				t.Fatalf("the fault of %s is no more", show(m))
			}
			m = n
		}
	}
}

func oneAtMost(t *testing.T, was, is api.Memory) {
	t.Helper()
	changed := 0
	for i := range was.Words {
		if was.Words[i] != is.Words[i] {
			changed++
		}
		if was.Live[i] != is.Live[i] {
			t.Errorf("%s is made %s", show(was), show(is))
		}
	}
	if changed > 1 {
		t.Errorf("%s is made %s", show(was), show(is))
	}
}
