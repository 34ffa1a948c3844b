package spin_test

import (
	"math"
	"testing"

	"afterglow/api"
	"afterglow/memory"
	"afterglow/spin"
)

// P5.1: locks that are laid, and places where none can be.
func TestLay(t *testing.T) {
	for _, c := range []struct {
		was   string
		at    int
		is    string
		errno api.Errno
	}{
		{"12", 0, "00", api.OK},
		{"00", 0, "00", api.OK},
		{"1234", 0, "0034", api.OK},
		{"1234", 1, "1004", api.OK},
		{"1234", 2, "1200", api.OK},
		{"x12.", 1, "x00.", api.OK},
		{"1234", 3, "", api.ErrArg},
		{"1234", 4, "", api.ErrArg},
		{"1234", -1, "", api.ErrArg},
		{"1234", -2, "", api.ErrArg},
		{"1234", math.MinInt, "", api.ErrArg},
		{"1234", math.MaxInt, "", api.ErrArg},
		{"1234", math.MaxInt - 1, "", api.ErrArg},
		{"x12.", 0, "", api.ErrArg},
		{"x12.", 2, "", api.ErrArg},
		{"x12.", 3, "", api.ErrArg},
		{"1.", 0, "", api.ErrArg},
		{".1", 0, "", api.ErrArg},
		{"xx", 0, "", api.ErrArg},
		{"1", 0, "", api.ErrArg},
	} {
		for _, fault := range []bool{false, true} {
			was, is := spell(c.was), spell(c.is)
			was.Fault, is.Fault = fault, fault && c.errno == api.OK
			if m, e := spin.Lay(was, c.at); e != c.errno || !memory.Same(m, is) {
				t.Errorf("Lay(%s, %d): %s, %d, not %s, %d", show(was), c.at, show(m), e, show(is), c.errno)
			}
		}
	}
}

// P5.1: at all places of all small memories.
func TestLayAll(t *testing.T) {
	for _, text := range smallMemories(5) {
		for at := -2; at <= len(text)+1; at++ {
			want, errno := api.Memory{}, api.ErrArg
			if at >= 0 && at+2 <= len(text) && text[at:at+2] == "33" {
				want, errno = spell(text[:at]+"00"+text[at+2:]), api.OK
			}
			if m, e := spin.Lay(spell(text), at); e != errno || !memory.Same(m, want) {
				t.Fatalf("Lay(%s, %d): %s, %d, not %s, %d", text, at, show(m), e, show(want), errno)
			}
		}
	}
}

// P5.1: the last two words of the greatest memory.
func TestLayLast(t *testing.T) {
	m, _ := memory.New(api.MaxWords)
	m, _ = memory.Live(m, 0, api.MaxWords)
	for i := range m.Words {
		m.Words[i] = wholeWord
	}
	n, e := spin.Lay(m, api.MaxWords-2)
	if e != api.OK || n.Words[api.MaxWords-1] != 0 || n.Words[api.MaxWords-2] != 0 || n.Words[api.MaxWords-3] != wholeWord {
		t.Errorf("Lay at the last words: %d", e)
	}
	if n, e := spin.Lay(m, api.MaxWords-1); e != api.ErrArg || !empty(n) {
		t.Errorf("Lay at the last word: %d", e)
	}
}

// P5.1: what may not be a memory is told ahead of a place that is not there.
func TestLayNoMemory(t *testing.T) {
	for _, m := range noMemories() {
		for _, at := range []int{math.MinInt, -1, 0, 1, api.MaxWords, math.MaxInt} {
			if n, e := spin.Lay(m, at); e != api.ErrMemory || !empty(n) {
				t.Errorf("Lay of %d words at %d: %s, %d", len(m.Words), at, show(n), e)
			}
		}
	}
}

// P5.1: what is handed in stays as it is, and is not kept.
func TestLayApart(t *testing.T) {
	for _, at := range []int{1, 2, 3, 9} {
		apart(t, spell("1234x"), func(m api.Memory) api.Memory {
			n, _ := spin.Lay(m, at)
			return n
		})
	}
}

// P5.1: who asks has no ticket yet.
func TestAsk(t *testing.T) {
	for _, at := range []int{0, 1, 2, 4094, 4095, 4096, math.MaxInt} {
		if s := spin.Ask(at); s != (api.Spin{At: at}) || spin.Check(s) != api.OK {
			t.Errorf("Ask(%d): %v", at, s)
		}
	}
	for _, at := range []int{-1, math.MinInt} {
		if e := spin.Check(spin.Ask(at)); e != api.ErrSpin {
			t.Errorf("Ask(%d): %d", at, e)
		}
	}
}

// P5.1: places, phases and tickets, each with each.
func TestCheck(t *testing.T) {
	for _, at := range []int{math.MinInt, -2, -1, 0, 1, 4096, math.MaxInt} {
		for _, phase := range []int{math.MinInt, -1, 0, 1, 2, 3, 4, 5, 6, 7, 256, 1 << 32, math.MaxInt} {
			for _, ticket := range values() {
				want := api.OK
				switch {
				case at < 0, phase < 0, phase > 5:
					want = api.ErrSpin
				case phase == 0 && ticket != 0:
					want = api.ErrSpin
				}
				s := api.Spin{At: at, Phase: phase, Ticket: ticket}
				if e := spin.Check(s); e != want {
					t.Errorf("Check(%v): %d, not %d", s, e, want)
				}
			}
		}
	}
	for _, s := range noSpins() {
		if e := spin.Check(s); e != api.ErrSpin {
			t.Errorf("Check(%v): %d", s, e)
		}
	}
}
