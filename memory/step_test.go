package memory_test

import (
	"math"
	"slices"
	"testing"

	"afterglow/api"
	"afterglow/memory"
)

// P2.3: the chapter's examples, and what lies beside them.
func TestStep(t *testing.T) {
	for _, c := range []struct {
		was  string
		a    api.Access
		is   string
		got  api.Got
		lost bool
	}{
		{"..000...", api.Access{Kind: api.AcStore, At: 3, New: 7}, "..070...", api.Got{Done: true}, false},
		{"..070...", api.Access{Kind: api.AcLoad, At: 3}, "..070...", api.Got{Value: 7, Done: true}, false},
		{"..070...", api.Access{Kind: api.AcSwap, At: 3, Old: 7, New: 9}, "..090...", api.Got{Value: 7, Done: true}, false},
		{"..090...", api.Access{Kind: api.AcSwap, At: 3, Old: 7, New: 1}, "..090...", api.Got{Value: 9}, false},
		{"..090...", api.Access{Kind: api.AcLoad, At: 5}, "..090...", api.Got{}, true},
		{"..090...", api.Access{Kind: api.AcStore, At: 5, New: 4}, "..090...", api.Got{}, true},
		{"..090...", api.Access{Kind: api.AcSwap, At: 5, New: 4}, "..090...", api.Got{}, true},
		{"1xx", api.Access{Kind: api.AcLoad, At: 1}, "1xx", api.Got{}, true},
		{"1xx", api.Access{Kind: api.AcSwap, At: 1, Old: api.Poison, New: 4}, "1xx", api.Got{}, true},
		{"123", api.Access{Kind: api.AcLoad, At: 0, Old: 5, New: 6}, "123", api.Got{Value: 1, Done: true}, false},
		{"123", api.Access{Kind: api.AcStore, At: 0, Old: 5, New: 6}, "623", api.Got{Value: 1, Done: true}, false},
		{"123", api.Access{Kind: api.AcStore, At: 2, New: 3}, "123", api.Got{Value: 3, Done: true}, false},
		{"123", api.Access{Kind: api.AcSwap, At: 2, Old: 3, New: 3}, "123", api.Got{Value: 3, Done: true}, false},
		{"123", api.Access{Kind: api.AcSwap, At: 2, Old: 4, New: 3}, "123", api.Got{Value: 3}, false},
		{"023", api.Access{Kind: api.AcSwap, At: 0, New: 8}, "823", api.Got{Done: true}, false},
		{"023", api.Access{Kind: api.AcSwap, At: 0, Old: 1, New: 8}, "023", api.Got{}, false},
		{"123", api.Access{Kind: api.AcLoad, At: 3}, "123", api.Got{}, true},
		{"123", api.Access{Kind: api.AcStore, At: -1, New: 3}, "123", api.Got{}, true},
	} {
		for _, fault := range []bool{false, true} {
			was, is := spell(c.was), spell(c.is)
			was.Fault, is.Fault = fault, fault || c.lost
			m, got, e := memory.Step(was, c.a)
			if e != api.OK || got != c.got {
				t.Errorf("Step(%s, %v): %v, %d, not %v", show(was), c.a, got, e, c.got)
			}
			mustBe(t, "Step("+show(was)+")", m, is)
		}
	}
}

// P2.3: each kind, of each word, with words of all sorts.
func TestStepAll(t *testing.T) {
	for _, held := range values() {
		for _, old := range values() {
			for _, w := range values() {
				for kind := api.AcLoad; kind <= api.AcSwap; kind++ {
					for at := -1; at <= 4; at++ {
						m := spell(".0x0")
						m.Words[1], m.Words[3] = held, held^1
						a := api.Access{Kind: kind, At: at, Old: old, New: w}
						p := plainOf(m)
						want := p.make(a)
						n, got, e := memory.Step(m, a)
						if e != api.OK || got != want || !same(n, p.memory()) {
							t.Fatalf("Step(%v, %v): %v, %v, %d, not %v", m, a, n, got, e, want)
						}
					}
				}
			}
		}
	}
}

// P2.3: an access of a word that is not there is a fault, however far off it is; the access of no kind is told ahead of it.
func TestStepFar(t *testing.T) {
	for _, at := range append(places(4), 1, 2) {
		for kind := api.AcLoad; kind <= api.AcSwap; kind++ {
			m, got, e := memory.Step(spell("1.x2"), api.Access{Kind: kind, At: at, New: 3})
			if e != api.OK || got != (api.Got{}) {
				t.Errorf("a %d at %d: %v, %d", kind, at, got, e)
			}
			mustBe(t, "a fault", m, faulty(spell("1.x2")))
		}
		mustBeNone(t, api.Access{At: at})
		mustBeNone(t, api.Access{Kind: 4, At: at})
	}
}

// P2.3: which kinds there are not.
func TestStepNoKind(t *testing.T) {
	for _, kind := range []int{math.MinInt, -3, -1, 0, 4, 5, 256 + 1, 1<<32 + 1, math.MaxInt} {
		for at := range 4 {
			mustBeNone(t, api.Access{Kind: kind, At: at, Old: 1, New: 5})
		}
	}
}

func mustBeNone(t *testing.T, a api.Access) {
	t.Helper()
	for _, m := range []api.Memory{spell("1.x2"), faulty(spell("1.x2"))} {
		if n, got, e := memory.Step(m, a); e != api.ErrAccess || got != (api.Got{}) || !empty(n) {
			t.Errorf("Step(%v): %s, %v, %d", a, show(n), got, e)
		}
		good := api.Access{Kind: api.AcStore, New: 9}
		for _, l := range [][]api.Access{{a}, {a, good}, {good, a}, {good, a, good}, {good, good, a, a}} {
			if n, got, e := memory.Run(m, l...); e != api.ErrAccess || len(got) != 0 || !empty(n) {
				t.Errorf("Run(%v): %s, %v, %d", l, show(n), got, e)
			}
		}
	}
}

// P2.3: Run of none is the memory as it is.
func TestRunNone(t *testing.T) {
	for _, m := range []api.Memory{spell("1.x2"), faulty(spell("x"))} {
		n, got, e := memory.Run(m)
		if e != api.OK || len(got) != 0 {
			t.Errorf("Run of none: %v, %d", got, e)
		}
		mustBe(t, "Run of none", n, m)
	}
}

// P2.3: Run is one step behind the other, and what each comes to.
func TestRun(t *testing.T) {
	m, got, e := memory.Run(spell("00.0"),
		api.Access{Kind: api.AcStore, At: 0, New: 5},
		api.Access{Kind: api.AcSwap, At: 0, Old: 5, New: 6},
		api.Access{Kind: api.AcSwap, At: 0, Old: 5, New: 7},
		api.Access{Kind: api.AcStore, At: 2, New: 8},
		api.Access{Kind: api.AcLoad, At: 0},
		api.Access{Kind: api.AcStore, At: 3, New: 9},
		api.Access{Kind: api.AcLoad, At: 3})
	want := []api.Got{{Done: true}, {Value: 5, Done: true}, {Value: 6}, {}, {Value: 6, Done: true}, {Done: true}, {Value: 9, Done: true}}
	if e != api.OK || !slices.Equal(got, want) {
		t.Errorf("Run: %v, %d", got, e)
	}
	mustBe(t, "Run", m, faulty(spell("60.9")))
}

// someAccesses are of all kinds, most of words that are there, and often of a word's own value.
func someAccesses(c *chance, words, many int) []api.Access {
	var l []api.Access
	for range many {
		l = append(l, api.Access{Kind: 1 + c.below(3), At: c.below(words+2) - 1, Old: uint64(c.below(3)), New: uint64(c.below(3))})
	}
	return l
}

// P2.3: long rows come to the same by Run, by Step, and by what the chapter says word by word.
func TestRunLong(t *testing.T) {
	c := chance(23)
	for range 300 {
		text := make([]byte, 1+c.below(9))
		for i := range text {
			text[i] = ".x0012"[c.below(6)]
		}
		first := spell(string(text))
		l := someAccesses(&c, len(text), c.below(40))
		m, p := first, plainOf(first)
		var want []api.Got
		for _, a := range l {
			n, got, e := memory.Step(m, a)
			if told := p.make(a); e != api.OK || got != told || !same(n, p.memory()) {
				t.Fatalf("Step(%s, %v): %s, %v, %d, not %v", show(m), a, show(n), got, e, told)
			}
			m, want = n, append(want, got)
		}
		n, got, e := memory.Run(first, l...)
		if e != api.OK || !slices.Equal(got, want) || !same(n, m) {
			t.Fatalf("Run(%s, %v): %s, %v, %d, not %s, %v", text, l, show(n), got, e, show(m), want)
		}
	}
}

// P2.3: what is handed in stays as it is, and is not kept.
func TestStepApart(t *testing.T) {
	for kind := api.AcLoad; kind <= api.AcSwap; kind++ {
		for at := range 6 {
			a := api.Access{Kind: kind, At: at, Old: 1, New: 7}
			apart(t, spell("1.2x1"), func(m api.Memory) api.Memory {
				n, _, _ := memory.Step(m, a)
				return n
			})
			apart(t, spell("1.2x1"), func(m api.Memory) api.Memory {
				n, _, _ := memory.Run(m, a, a)
				return n
			})
		}
	}
	apart(t, spell("1.2x1"), func(m api.Memory) api.Memory {
		n, _, _ := memory.Run(m)
		return n
	})
	l := []api.Access{{Kind: api.AcStore, At: 0, Old: 2, New: 3}, {Kind: api.AcLoad, At: 9}, {Kind: 77, At: 1}}
	before := slices.Clone(l)
	memory.Run(spell("1.2x1"), l[:2]...)
	memory.Run(spell("1.2x1"), l...)
	if !slices.Equal(l, before) {
		t.Errorf("the accesses are changed: %v", l)
	}
}
