package spin_test

import (
	"math"
	"testing"

	"afterglow/api"
	"afterglow/spin"
)

// P5.2: what each phase asks for, of small tickets and of the last one.
func TestNeed(t *testing.T) {
	for _, c := range []struct {
		s    api.Spin
		want api.Access
		has  bool
	}{
		{api.Spin{At: 3}, api.Access{Kind: api.AcLoad, At: 3}, true},
		{api.Spin{At: 3, Phase: api.SpTake}, api.Access{Kind: api.AcSwap, At: 3, Old: 0, New: 1}, true},
		{api.Spin{At: 3, Phase: api.SpTake, Ticket: 8}, api.Access{Kind: api.AcSwap, At: 3, Old: 8, New: 9}, true},
		{api.Spin{Phase: api.SpTake, Ticket: wholeWord}, api.Access{Kind: api.AcSwap, Old: wholeWord, New: 0}, true},
		{api.Spin{At: 3, Phase: api.SpWait}, api.Access{Kind: api.AcLoad, At: 4}, true},
		{api.Spin{At: 3, Phase: api.SpWait, Ticket: 8}, api.Access{Kind: api.AcLoad, At: 4}, true},
		{api.Spin{At: 3, Phase: api.SpHeld, Ticket: 8}, api.Access{}, false},
		{api.Spin{At: 3, Phase: api.SpLeave}, api.Access{Kind: api.AcStore, At: 4, New: 1}, true},
		{api.Spin{At: 3, Phase: api.SpLeave, Ticket: 8}, api.Access{Kind: api.AcStore, At: 4, New: 9}, true},
		{api.Spin{Phase: api.SpLeave, Ticket: wholeWord}, api.Access{Kind: api.AcStore, At: 1, New: 0}, true},
		{api.Spin{At: 3, Phase: api.SpDone, Ticket: 8}, api.Access{}, false},
		{api.Spin{At: 9000}, api.Access{Kind: api.AcLoad, At: 9000}, true},
		{api.Spin{At: math.MaxInt - 1, Phase: api.SpWait}, api.Access{Kind: api.AcLoad, At: math.MaxInt}, true},
	} {
		if a, has := spin.Need(c.s); a != c.want || has != c.has {
			t.Errorf("Need(%v): %v, %t, not %v, %t", c.s, a, has, c.want, c.has)
		}
	}
	for _, s := range noSpins() {
		if a, has := spin.Need(s); has || a != (api.Access{}) {
			t.Errorf("Need(%v): %v, %t", s, a, has)
		}
	}
}

// P5.2: a lock may be at the last place that there could be: no word is behind it, but nothing is wrong.
func TestNeedFar(t *testing.T) {
	for phase := api.SpAsk; phase <= api.SpDone; phase++ {
		s := api.Spin{At: math.MaxInt, Phase: phase}
		m, n, e := spin.Step(spell("12"), s)
		fault := phase != api.SpHeld && phase != api.SpDone
		if e != api.OK || m.Fault != fault || show(m)[:2] != "12" {
			t.Errorf("Step(12, %v): %s, %v, %d", s, show(m), n, e)
		}
	}
}

// P5.2: what each phase comes to, of what was done and of what was not.
func TestTake(t *testing.T) {
	for _, c := range []struct {
		phase  int
		ticket uint64
		got    api.Got
		is     int
		has    uint64
	}{
		{api.SpAsk, 0, api.Got{Value: 5, Done: true}, api.SpTake, 5},
		{api.SpAsk, 0, api.Got{Value: 0, Done: true}, api.SpTake, 0},
		{api.SpAsk, 0, api.Got{Value: wholeWord, Done: true}, api.SpTake, wholeWord},
		{api.SpAsk, 0, api.Got{}, api.SpAsk, 0},
		{api.SpAsk, 0, api.Got{Value: 5}, api.SpAsk, 0},
		{api.SpTake, 5, api.Got{Value: 5, Done: true}, api.SpWait, 5},
		{api.SpTake, 0, api.Got{Value: 0, Done: true}, api.SpWait, 0},
		{api.SpTake, 5, api.Got{Value: 6}, api.SpAsk, 0},
		{api.SpTake, 5, api.Got{Value: 5}, api.SpAsk, 0},
		{api.SpTake, 5, api.Got{}, api.SpAsk, 0},
		{api.SpWait, 5, api.Got{Value: 5, Done: true}, api.SpHeld, 5},
		{api.SpWait, 5, api.Got{Value: 4, Done: true}, api.SpWait, 5},
		{api.SpWait, 5, api.Got{Value: 6, Done: true}, api.SpWait, 5},
		{api.SpWait, 5, api.Got{Value: 0, Done: true}, api.SpWait, 5},
		{api.SpWait, 5, api.Got{Value: 5}, api.SpWait, 5},
		{api.SpWait, 0, api.Got{}, api.SpWait, 0},
		{api.SpWait, 0, api.Got{Done: true}, api.SpHeld, 0},
		{api.SpWait, wholeWord, api.Got{Value: wholeWord, Done: true}, api.SpHeld, wholeWord},
		{api.SpLeave, 5, api.Got{Value: 5, Done: true}, api.SpDone, 5},
		{api.SpLeave, 5, api.Got{Value: 9, Done: true}, api.SpDone, 5},
		{api.SpLeave, 5, api.Got{Value: 5}, api.SpLeave, 5},
		{api.SpLeave, 5, api.Got{}, api.SpLeave, 5},
	} {
		for _, at := range []int{0, 3, math.MaxInt} {
			s, want := api.Spin{At: at, Phase: c.phase, Ticket: c.ticket}, api.Spin{At: at, Phase: c.is, Ticket: c.has}
			if n, e := spin.Take(s, c.got); e != api.OK || n != want {
				t.Errorf("Take(%v, %v): %v, %d, not %v", s, c.got, n, e, want)
			}
		}
	}
}

// P5.2: in which phases nothing is taken, and that nobody who may not be takes anything.
func TestTakeWrong(t *testing.T) {
	for _, g := range []api.Got{{}, {Done: true}, {Value: 1}, {Value: 1, Done: true}} {
		for _, phase := range []int{api.SpHeld, api.SpDone} {
			for _, ticket := range values() {
				s := api.Spin{At: 1, Phase: phase, Ticket: ticket}
				if n, e := spin.Take(s, g); e != api.ErrArg || n != (api.Spin{}) {
					t.Errorf("Take(%v, %v): %v, %d", s, g, n, e)
				}
			}
		}
		for _, s := range noSpins() {
			if n, e := spin.Take(s, g); e != api.ErrSpin || n != (api.Spin{}) {
				t.Errorf("Take(%v, %v): %v, %d", s, g, n, e)
			}
		}
	}
}

// P5.2: who holds the lock can leave, nobody else.
func TestLeave(t *testing.T) {
	for phase := api.SpAsk; phase <= api.SpDone; phase++ {
		for _, ticket := range values() {
			if phase == api.SpAsk && ticket != 0 {
				continue
			}
			s := api.Spin{At: 6, Phase: phase, Ticket: ticket}
			want, errno := api.Spin{}, api.ErrArg
			if phase == api.SpHeld {
				want, errno = api.Spin{At: 6, Phase: api.SpLeave, Ticket: ticket}, api.OK
			}
			if n, e := spin.Leave(s); e != errno || n != want {
				t.Errorf("Leave(%v): %v, %d, not %v, %d", s, n, e, want, errno)
			}
		}
	}
	for _, s := range noSpins() {
		if n, e := spin.Leave(s); e != api.ErrSpin || n != (api.Spin{}) {
			t.Errorf("Leave(%v): %v, %d", s, n, e)
		}
	}
}
