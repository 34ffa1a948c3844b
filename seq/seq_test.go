package seq_test

import (
	"math"
	"slices"
	"testing"

	"afterglow/api"
	"afterglow/seq"
)

// P6.1: all edges of places and of how many words: a new read, or none.
func TestRead(t *testing.T) {
	edges := []int{math.MinInt, -1, 0, 1, 2, 15, 16, 17, 18, 4079, 4080, 4081, 4095, 4096, 4097, 4098, math.MaxInt}
	for _, at := range edges {
		for _, from := range edges {
			for _, many := range edges {
				want, errno := api.SeqRead{At: at, From: from, Many: many}, api.OK
				guarded := many >= 0 && many <= 16 && at >= 0 && at <= 4096 && from >= 0 && from <= 4096
				for i := 0; guarded && i < many; i++ {
					guarded = at != from+i
				}
				if !guarded {
					want, errno = api.SeqRead{}, api.ErrArg
				}
				if s, e := seq.Read(at, from, many); e != errno || !sameRead(s, want) {
					t.Errorf("Read(%d, %d, %d): %v, %d, not %v, %d", at, from, many, s, e, want, errno)
				}
			}
		}
	}
}

// P6.1: the counter is none of the words, wherever it lies.
func TestReadBeside(t *testing.T) {
	for many := 0; many <= 16; many++ {
		for at := range 40 {
			errno := api.OK
			if at >= 12 && at < 12+many {
				errno = api.ErrArg
			}
			if _, e := seq.Read(at, 12, many); e != errno {
				t.Errorf("Read(%d, 12, %d): %d, not %d", at, many, e, errno)
			}
			if many > 0 {
				if _, e := seq.Write(at, 12, make([]uint64, many)...); e != errno {
					t.Errorf("Write(%d, 12, %d values): %d, not %d", at, many, e, errno)
				}
			}
		}
	}
}

// P6.1: all edges of places and of how many values: a new write, or none.
func TestWrite(t *testing.T) {
	edges := []int{math.MinInt, -1, 0, 1, 2, 15, 16, 17, 4079, 4080, 4081, 4095, 4096, 4097, math.MaxInt - 16, math.MaxInt}
	c := chance(61)
	for _, many := range []int{0, 1, 2, 15, 16, 17, 18, 5000} {
		values := c.someValues(many)
		for _, at := range edges {
			for _, from := range edges {
				want, errno := api.SeqWrite{At: at, From: from, Values: values}, api.OK
				guarded := many >= 1 && many <= 16 && at >= 0 && at <= 4096 && from >= 0 && from <= 4096
				for i := 0; guarded && i < many; i++ {
					guarded = at != from+i
				}
				if !guarded {
					want, errno = api.SeqWrite{}, api.ErrArg
				}
				if s, e := seq.Write(at, from, values...); e != errno || !sameWrite(s, want) {
					t.Errorf("Write(%d, %d, %d values): %v, %d, not %v, %d", at, from, many, s, e, want, errno)
				}
			}
		}
	}
}

// P6.1: the values of a write are its own.
func TestWriteApart(t *testing.T) {
	values := roomyValues([]uint64{7, 8})
	held := whole(values)
	first, _ := seq.Write(0, 1, values...)
	second, _ := seq.Write(0, 1, values...)
	if !slices.Equal(whole(values), held) {
		t.Errorf("%v is changed: %v", held, whole(values))
	}
	scrub(values, 1)
	scrub(first.Values, 2)
	if !slices.Equal(second.Values, []uint64{7, 8}) {
		t.Errorf("the values are shared: %v", second.Values)
	}
}

// P6.2: a new one may be.
func TestCheckNew(t *testing.T) {
	for many := range 17 {
		r, e := seq.Read(3, 4, many)
		if e != api.OK || seq.CheckRead(r) != api.OK {
			t.Errorf("Read of %d: %d, %d", many, e, seq.CheckRead(r))
		}
		if many == 0 {
			continue
		}
		w, e := seq.Write(3, 4, make([]uint64, many)...)
		if e != api.OK || seq.CheckWrite(w) != api.OK {
			t.Errorf("Write of %d: %d, %d", many, e, seq.CheckWrite(w))
		}
	}
}

// mayRead is how many values a read may have, from and to, by its phase; a new one has none.
func mayRead(phase, many, tries int) (int, int) {
	switch {
	case phase == api.SqBegin && tries == 0:
		return 0, 0
	case phase == api.SqBegin, phase == api.SqClose, phase == api.SqOver:
		return many, many
	case phase == api.SqData:
		return 0, many - 1
	case phase == api.SqLost:
		return 0, many
	}
	return 0, -1
}

// P6.2: phases, values, counters and tries, each with each.
func TestCheckRead(t *testing.T) {
	for _, phase := range phases() {
		for _, many := range []int{0, 1, 2, 3, 15, 16} {
			for have := range 19 {
				for _, tries := range []int{math.MinInt, -1, 0, 1, 2, 1<<30 - 1, 1 << 30, 1<<30 + 1, math.MaxInt} {
					for _, began := range counts() {
						s := api.SeqRead{At: 30, From: 7, Many: many, Phase: phase, Began: began, Values: make([]uint64, have), Tries: tries}
						least, most := mayRead(phase, many, tries)
						want := api.ErrSeq
						if have >= least && have <= most && began%2 == 0 && tries >= 0 && tries <= 1<<30 {
							want = api.OK
						}
						if e := seq.CheckRead(s); e != want {
							t.Errorf("CheckRead(%v): %d, not %d", s, e, want)
						}
					}
				}
			}
		}
	}
	for _, s := range noReads() {
		if e := seq.CheckRead(s); e != api.ErrSeq {
			t.Errorf("CheckRead(%v): %d", s, e)
		}
	}
}

// P6.2: phases, values, counters and how many are written, each with each.
func TestCheckWrite(t *testing.T) {
	for _, phase := range phases() {
		for many := range 19 {
			for _, wrote := range []int{math.MinInt, -1, 0, 1, 2, many - 1, many, many + 1, 16, 17, math.MaxInt} {
				for _, began := range counts() {
					least, most := 0, -1
					switch phase {
					case api.SqBegin, api.SqOpen:
						most = 0
					case api.SqData:
						most = many - 1
					case api.SqClose, api.SqOver:
						least, most = many, many
					case api.SqLost:
						most = many
					}
					want := api.ErrSeq
					if many >= 1 && many <= 16 && wrote >= least && wrote <= most && began%2 == 0 {
						want = api.OK
					}
					s := api.SeqWrite{At: 30, From: 7, Values: make([]uint64, many), Phase: phase, Began: began, Wrote: wrote}
					if e := seq.CheckWrite(s); e != want {
						t.Errorf("CheckWrite(%v): %d, not %d", s, e, want)
					}
				}
			}
		}
	}
	for _, s := range noWrites() {
		if e := seq.CheckWrite(s); e != api.ErrSeq {
			t.Errorf("CheckWrite(%v): %d", s, e)
		}
	}
}

// P6.2: places are asked for in all phases, at their edges.
func TestCheckPlaces(t *testing.T) {
	for _, c := range []struct {
		at, from int
		want     api.Errno
	}{
		{0, 1, api.OK}, {0, 4096, api.OK}, {4096, 0, api.OK}, {4096, 4094, api.OK}, {3, 1, api.OK}, {4095, 4096, api.OK},
		{1, 1, api.ErrSeq}, {2, 1, api.ErrSeq}, {4096, 4096, api.ErrSeq}, {4096, 4095, api.ErrSeq}, {0, 0, api.ErrSeq},
		{-1, 1, api.ErrSeq}, {4097, 1, api.ErrSeq}, {0, -1, api.ErrSeq}, {0, -2, api.ErrSeq}, {0, 4097, api.ErrSeq},
		{math.MaxInt, math.MaxInt - 1, api.ErrSeq}, {0, math.MaxInt, api.ErrSeq}, {math.MinInt, 1, api.ErrSeq},
	} {
		for phase := api.SqBegin; phase <= api.SqLost; phase++ {
			have := []int{0, 0, 1, 2, 2, 1}[phase]
			r := api.SeqRead{At: c.at, From: c.from, Many: 2, Phase: phase, Values: make([]uint64, have)}
			if e := seq.CheckRead(r); phase != api.SqOpen && e != c.want {
				t.Errorf("CheckRead(%v): %d, not %d", r, e, c.want)
			}
			w := api.SeqWrite{At: c.at, From: c.from, Values: []uint64{7, 8}, Phase: phase, Wrote: have}
			if e := seq.CheckWrite(w); e != c.want {
				t.Errorf("CheckWrite(%v): %d, not %d", w, e, c.want)
			}
		}
	}
}
