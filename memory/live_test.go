package memory_test

import (
	"math"
	"testing"

	"afterglow/api"
	"afterglow/memory"
)

// P2.2: a table of both, the chapter's examples among them.
func TestLiveFree(t *testing.T) {
	for _, c := range []struct {
		name, was  string
		from, many int
		is         string
		errno      api.Errno
	}{
		{"Live", "........", 2, 3, "..000...", api.OK},
		{"Live", "x.xx", 0, 4, "0000", api.OK},
		{"Live", "1xx2", 1, 2, "1002", api.OK},
		{"Live", "1xx2", 1, 1, "10x2", api.OK},
		{"Live", ".", 0, 1, "0", api.OK},
		{"Live", "..123...", 4, 2, "", api.ErrThere},
		{"Live", "..123...", 1, 2, "", api.ErrThere},
		{"Live", "..123...", 0, 8, "", api.ErrThere},
		{"Live", "..123...", 3, 1, "", api.ErrThere},
		{"Live", "..123...", 7, 2, "", api.ErrArg},
		{"Live", "..123...", 2, 0, "", api.ErrArg},
		{"Live", "..123...", 3, 6, "", api.ErrArg},
		{"Free", "..123...", 2, 3, "..xxx...", api.OK},
		{"Free", "..123...", 3, 1, "..1x3...", api.OK},
		{"Free", "0", 0, 1, "x", api.OK},
		{"Free", "1234", 0, 4, "xxxx", api.OK},
		{"Free", "1234", 3, 1, "123x", api.OK},
		{"Free", "..123...", 0, 1, "", api.ErrNone},
		{"Free", "..123...", 1, 2, "", api.ErrNone},
		{"Free", "..123...", 4, 2, "", api.ErrNone},
		{"Free", "12x45", 0, 5, "", api.ErrNone},
		{"Free", "12.45", 1, 3, "", api.ErrNone},
		{"Free", "12.45", 2, 1, "", api.ErrNone},
		{"Free", "..123...", 7, 2, "", api.ErrArg},
		{"Free", "..123...", 2, 0, "", api.ErrArg},
		{"Free", "12345", 4, 2, "", api.ErrArg},
	} {
		call := memory.Live
		if c.name == "Free" {
			call = memory.Free
		}
		for _, fault := range []bool{false, true} {
			was, is := spell(c.was), spell(c.is)
			was.Fault, is.Fault = fault, fault && c.errno == api.OK
			m, e := call(was, c.from, c.many)
			if e != c.errno || !same(m, is) {
				t.Errorf("%s(%s, %d, %d): %s, %d, not %s, %d", c.name, show(was), c.from, c.many, show(m), e, show(is), c.errno)
			}
		}
	}
}

// P2.2: all rows of all small memories, by what the chapter says word by word.
func TestLiveFreeAll(t *testing.T) {
	for _, text := range smallMemories() {
		for from := -1; from <= len(text)+1; from++ {
			for many := -1; many <= len(text)+1; many++ {
				for _, live := range []bool{false, true} {
					call, name := memory.Free, "Free"
					if live {
						call, name = memory.Live, "Live"
					}
					p := plainOf(spell(text))
					want := p.turn(from, many, live)
					m, e := call(spell(text), from, many)
					if e != want || want != api.OK && !empty(m) || want == api.OK && !same(m, p.memory()) {
						t.Fatalf("%s(%s, %d, %d): %s, %d, not %s, %d", name, text, from, many, show(m), e, show(p.memory()), want)
					}
				}
			}
		}
	}
}

// smallMemories are all of up to five words, each free of 0, free of Poison, or live.
func smallMemories() []string {
	var all []string
	last := []string{""}
	for range 5 {
		var next []string
		for _, text := range last {
			next = append(next, text+".", text+"x", text+"3")
		}
		all, last = append(all, next...), next
	}
	return all
}

// P2.2: a row that is not there is told ahead of words that are live, or free; no sum passes the greatest number.
func TestLiveFreeFar(t *testing.T) {
	for _, text := range []string{"....", "1111", "1..1", "xxxx"} {
		m := spell(text)
		for _, from := range places(len(text)) {
			for _, many := range []int{math.MinInt, -1, 0, 1, 2, 4, 5, math.MaxInt - 1, math.MaxInt} {
				mustRefuse(t, m, from, many)
			}
		}
		for from := range text {
			for _, many := range places(len(text) - from) {
				if many >= 1 && many <= len(text)-from {
					continue
				}
				mustRefuse(t, m, from, many)
			}
		}
	}
}

func mustRefuse(t *testing.T, m api.Memory, from, many int) {
	t.Helper()
	if n, e := memory.Live(m, from, many); e != api.ErrArg || !empty(n) {
		t.Errorf("Live(%s, %d, %d): %s, %d", show(m), from, many, show(n), e)
	}
	if n, e := memory.Free(m, from, many); e != api.ErrArg || !empty(n) {
		t.Errorf("Free(%s, %d, %d): %s, %d", show(m), from, many, show(n), e)
	}
}

// P2.2: the last word of the greatest memory is there, the one behind it is not.
func TestLiveFreeMost(t *testing.T) {
	m, _ := memory.New(api.MaxWords)
	all, e := memory.Live(m, 0, api.MaxWords)
	if e != api.OK {
		t.Fatal(e)
	}
	all.Words[api.MaxWords-1] = 9
	if all, e = memory.Free(all, 0, api.MaxWords); e != api.OK {
		t.Fatal(e)
	}
	for i, w := range all.Words {
		if w != api.Poison || all.Live[i] {
			t.Fatalf("the word %d holds %#x, %t", i, w, all.Live[i])
		}
	}
	if last, e := memory.Live(m, api.MaxWords-1, 1); e != api.OK || !last.Live[api.MaxWords-1] {
		t.Errorf("the last word: %d", e)
	}
	mustRefuse(t, m, 0, api.MaxWords+1)
	mustRefuse(t, m, api.MaxWords, 1)
}

// P2.2: what is handed in stays as it is, and is not kept.
func TestLiveFreeApart(t *testing.T) {
	apart(t, spell("1..2x"), func(m api.Memory) api.Memory {
		n, _ := memory.Live(m, 1, 2)
		return n
	})
	apart(t, faulty(spell("1..2x")), func(m api.Memory) api.Memory {
		n, _ := memory.Free(m, 3, 1)
		return n
	})
	apart(t, spell("1..2x"), func(m api.Memory) api.Memory {
		n, _ := memory.Free(m, 3, 2)
		return n
	})
}
