package grace_test

import (
	"slices"
	"testing"

	"afterglow/api"
	"afterglow/grace"
	"afterglow/reader"
)

// P12.5: readers and grace behind all ticks, and the numbers that were asked for, in order.
func TestPlay(t *testing.T) {
	r := api.Readers{Now: 9, Nest: []int{2, 0, 1}, Opened: []int{7, 0, 3}}
	for _, c := range []struct {
		l       []api.Tick
		r       api.Readers
		g       api.Grace
		numbers []int
	}{
		{nil, r, sound(), nil},
		{[]api.Tick{}, r, sound(), nil},
		{[]api.Tick{asks(0), asks(2), asks(1)}, r, sound(), []int{7, 7, 7}},
		{[]api.Tick{picks(0), picks(1), picks(2)}, r, sound(), nil},
		{[]api.Tick{leaves(2), picks(2)}, api.Readers{Now: 10, Nest: []int{2, 0, 0}, Opened: []int{7, 0, 0}}, changed(func(g *api.Grace) { g.Needs[2] = false }), nil},
		{[]api.Tick{leaves(2), enters(2), picks(2)}, api.Readers{Now: 11, Nest: []int{2, 0, 1}, Opened: []int{7, 0, 11}}, sound(), nil},
		{[]api.Tick{leaves(0), picks(0)}, api.Readers{Now: 10, Nest: []int{1, 0, 1}, Opened: []int{7, 0, 3}}, sound(), nil},
		{[]api.Tick{enters(1), picks(1)}, api.Readers{Now: 10, Nest: []int{2, 1, 1}, Opened: []int{7, 10, 3}}, sound(), nil},
		{[]api.Tick{leaves(2), leaves(0), leaves(0), picks(2), asks(1), picks(0), asks(1)}, api.Readers{Now: 12, Nest: []int{0, 0, 0}, Opened: []int{0, 0, 0}}, api.Grace{Done: 6, Asked: 7, Needs: needs(3)}, []int{7, 7}},
		{[]api.Tick{leaves(2), leaves(0), leaves(0), picks(2), picks(0), picks(2), asks(0), picks(1)}, api.Readers{Now: 12, Nest: []int{0, 0, 0}, Opened: []int{0, 0, 0}}, api.Grace{Done: 6, Asked: 8, On: true, Needs: needs(3, 0, 2)}, []int{8}},
	} {
		s, g, numbers := mustPlay(t, r, sound(), c.l...)
		if !alikeReaders(s, c.r) || !alike(g, c.g) || !slices.Equal(numbers, c.numbers) {
			t.Errorf("Play of %v: %v, %v, %v, not %v, %v, %v", c.l, s, g, numbers, c.r, c.g, c.numbers)
		}
	}
}

// P12.5: a CPU that is in a section may let a period begin, and is needed for it.
func TestPlayBegin(t *testing.T) {
	for cpus := 1; cpus <= 8; cpus++ {
		r, g := mustNew(t, cpus)
		who := cpus - 1
		s, h, l := mustPlay(t, r, g, enters(who), picks(who), asks(0), picks(who), picks(who))
		want := api.Grace{Asked: 1, On: true, Needs: slices.Repeat([]bool{true}, cpus)}
		if s.Nest[who] != 1 || !alike(h, want) || !slices.Equal(l, []int{1}) {
			t.Errorf("of %d CPUs: %v, %v, %v", cpus, s, h, l)
		}
	}
}

// P12.5: the error of the first tick that has one, whatever stands behind it; with it nothing else is told.
func TestPlayErrors(t *testing.T) {
	r, g := mustNew(t, 2)
	late := r
	late.Now = 2147483646
	full := api.Grace{Done: most - 1, Asked: most - 1, Needs: needs(2)}
	deep := slices.Repeat([]api.Tick{enters(1)}, 9)
	for _, c := range []struct {
		r    api.Readers
		g    api.Grace
		l    []api.Tick
		want api.Errno
	}{
		{r, g, []api.Tick{{}}, api.ErrTick},
		{r, g, []api.Tick{{Cpu: 9}}, api.ErrTick},
		{r, g, []api.Tick{{Kind: 5, Cpu: 9}, enters(9)}, api.ErrTick},
		{r, g, []api.Tick{enters(2), {}}, api.ErrArg},
		{r, g, []api.Tick{leaves(2), {}}, api.ErrArg},
		{r, g, []api.Tick{asks(2), {}}, api.ErrArg},
		{r, g, []api.Tick{picks(2), {}}, api.ErrArg},
		{r, g, []api.Tick{asks(0), picks(0), {Kind: 5}, picks(9)}, api.ErrTick},
		{r, g, []api.Tick{asks(0), enters(0), leaves(0), leaves(0)}, api.ErrNone},
		{r, g, []api.Tick{leaves(1), {}}, api.ErrNone},
		{r, g, append(deep[:8:8], asks(-1)), api.ErrArg},
		{r, g, append(deep[:9:9], asks(-1)), api.ErrFull},
		{late, g, []api.Tick{enters(0), leaves(0), {}}, api.ErrFull},
		{late, g, []api.Tick{enters(0), enters(0), {}}, api.ErrFull},
		{late, g, []api.Tick{enters(0), enters(2), {}}, api.ErrArg},
		{r, full, []api.Tick{asks(0), picks(0), asks(1), {}}, api.ErrFull},
		{r, full, []api.Tick{asks(0), picks(0), asks(2), {}}, api.ErrArg},
		{r, full, []api.Tick{asks(0), picks(0), picks(0), picks(1), asks(0), {}}, api.ErrFull},
	} {
		if s, h, numbers, e := grace.Play(c.r, c.g, c.l...); e != c.want || !bare(s, h, numbers) {
			t.Errorf("Play(%v, %v, %v): %v, %v, %v, %d, not %d", c.r, c.g, c.l, s, h, numbers, e, c.want)
		}
	}
	for _, kind := range append(edges(), 0, 5, 6, 64) {
		for _, cpu := range []int{0, 1, 2, -1} {
			if s, h, numbers, e := grace.Play(r, g, asks(0), api.Tick{Kind: kind, Cpu: cpu}); e != api.ErrTick || !bare(s, h, numbers) {
				t.Errorf("Play of the kind %d: %v, %v, %v, %d", kind, s, h, numbers, e)
			}
		}
	}
	for kind := 1; kind <= 4; kind++ {
		for _, cpu := range noCpus(2) {
			if s, h, numbers, e := grace.Play(r, g, asks(0), api.Tick{Kind: kind, Cpu: cpu}); e != api.ErrArg || !bare(s, h, numbers) {
				t.Errorf("Play of the kind %d, and the CPU %d: %v, %v, %v, %d", kind, cpu, s, h, numbers, e)
			}
		}
	}
}

// P12.5: ErrGrace, if readers and grace have not as many CPUs, ahead of whatever ticks.
func TestPlayCpus(t *testing.T) {
	for a := 1; a <= 8; a++ {
		for b := 1; b <= 8; b++ {
			r, _ := mustNew(t, a)
			_, g := mustNew(t, b)
			for _, l := range [][]api.Tick{nil, {asks(0)}, {{}}, {enters(9)}} {
				s, h, numbers, e := grace.Play(r, g, l...)
				if (e == api.ErrGrace) != (a != b) || a != b && !bare(s, h, numbers) {
					t.Errorf("Play(%v, %v, %v): %v, %v, %v, %d", r, g, l, s, h, numbers, e)
				}
			}
		}
	}
}

// tick is any tick.
func (c *chance) tick(cpus int) api.Tick {
	tick := api.Tick{Kind: 1 + c.below(4), Cpu: c.below(cpus)}
	switch c.below(60) {
	case 0:
		tick.Kind = c.below(9) - 2
	case 1:
		tick.Cpu = c.below(13) - 2
	}
	return tick
}

// ticked is readers, and p, behind a tick; and the number that was asked for, or 0.
func (p *plain) ticked(r api.Readers, tick api.Tick) (api.Readers, int, api.Errno) {
	switch tick.Kind {
	case 1:
		s, e := reader.Enter(r, tick.Cpu)
		return s, 0, e
	case 2:
		s, e := reader.Leave(r, tick.Cpu)
		return s, 0, e
	case 3:
		if tick.Cpu < 0 || tick.Cpu >= p.cpus {
			return r, 0, api.ErrArg
		}
		n, e := p.ask()
		return r, n, e
	case 4:
		quiet := tick.Cpu >= 0 && tick.Cpu < p.cpus && r.Nest[tick.Cpu] == 0
		return r, 0, p.pick(tick.Cpu, quiet)
	}
	return r, 0, api.ErrTick
}

// P12.5: any ticks, one by one and in a row, as they are told otherwise.
func TestPlayPlain(t *testing.T) {
	var c chance
	fine, wrong := 0, 0
	for range 4000 {
		p := c.somePlain()
		first, _ := mustNew(t, p.cpus)
		for range c.below(20) {
			if s, _, e := p.ticked(first, api.Tick{Kind: 1 + c.below(2), Cpu: c.below(p.cpus)}); e == api.OK {
				first = s
			}
		}
		begins := p.grace()
		r, g := first, begins
		var l []api.Tick
		var numbers []int
		errno := api.OK
		for range c.below(40) {
			tick := c.tick(p.cpus)
			l = append(l, tick)
			s, n, want := p.ticked(r, tick)
			errno = want
			q, h, asked, e := grace.Play(r, g, tick)
			if e != want || e != api.OK && !bare(q, h, asked) || e == api.OK && (!alikeReaders(q, s) || !alike(h, p.grace())) {
				t.Fatalf("Play(%v, %v, %v): %v, %v, %v, %d, not %v, %v, %d", r, g, tick, q, h, asked, e, s, p.grace(), want)
			}
			if e != api.OK {
				break
			}
			if n != 0 && (len(asked) != 1 || asked[0] != n) || n == 0 && len(asked) != 0 {
				t.Fatalf("Play(%v, %v, %v): %v, not %d", r, g, tick, asked, n)
			}
			r, g, numbers = s, h, append(numbers, asked...)
		}
		if errno != api.OK {
			r, g, numbers = api.Readers{}, api.Grace{}, nil
			wrong++
		} else {
			fine++
		}
		many := len(l)
		q, h, asked, e := grace.Play(first, begins, append(l, enters(-1))[:many]...)
		if e != errno || !alikeReaders(q, r) || !alike(h, g) || !slices.Equal(asked, numbers) {
			t.Fatalf("Play(%v, %v, %v): %v, %v, %v, %d, not %v, %v, %v, %d", first, begins, l, q, h, asked, e, r, g, numbers, errno)
		}
	}
	if fine < 500 || wrong < 500 {
		t.Errorf("%d rows of ticks have no error, %d have one", fine, wrong)
	}
}

// P12.5: a row may be long.
func TestPlayLong(t *testing.T) {
	r, g := mustNew(t, 2)
	var l []api.Tick
	var want []int
	for n := range 30000 {
		l = append(l, asks(0), enters(1), picks(0), picks(0), picks(1), leaves(1), picks(1))
		want = append(want, n+1)
	}
	s, h, numbers := mustPlay(t, r, g, l...)
	if s.Now != 60000 || !alike(h, api.Grace{Done: 30000, Asked: 30000, Needs: needs(2)}) || !slices.Equal(numbers, want) {
		t.Errorf("Play of many: %v, %v, %d numbers", s, h, len(numbers))
	}
	if s, h, numbers, e := grace.Play(r, g, append(l, leaves(1), picks(7))...); e != api.ErrNone || !bare(s, h, numbers) {
		t.Errorf("Play of many, and one that has an error: %v, %v, %v, %d", s, h, numbers, e)
	}
}

// P12.5: readers that are handed in stay as they are, the room behind their rows, too; they, ticks and numbers share no memory with what is answered.
func TestPlayApart(t *testing.T) {
	room := func(l []int) []int { return roomy(l, 55) }
	r := api.Readers{Now: 9, Nest: room([]int{2, 0, 1}), Opened: room([]int{7, 0, 3})}
	nest, opened := whole(r.Nest), whole(r.Opened)
	minus := func(n int) int { return -1 - n }
	for _, l := range [][]api.Tick{nil, {asks(0)}, {enters(1), asks(0), leaves(2), picks(2)}, {picks(1), asks(1), {}}} {
		in := roomy(l, enters(77))
		ticks := whole(in)
		s, g, numbers, e := grace.Play(r, sound(), in...)
		if !slices.Equal(whole(r.Nest), nest) || !slices.Equal(whole(r.Opened), opened) || r.Now != 9 || !slices.Equal(whole(in), ticks) {
			t.Fatalf("Play of %v: %v and %v were handed in", l, r, in)
		}
		if e != api.OK {
			continue
		}
		again, h, more := mustPlay(t, r, sound(), in...)
		scrub(s.Nest, minus)
		scrub(numbers, minus)
		if !slices.Equal(s.Opened, again.Opened) || !alike(g, h) || slices.Equal(s.Nest, again.Nest) || len(more) > 0 && more[0] != 7 {
			t.Fatalf("Play of %v: what is answered shares memory: %v, %v", l, s, again)
		}
		scrub(s.Opened, minus)
		if !slices.Equal(whole(r.Nest), nest) || !slices.Equal(whole(r.Opened), opened) {
			t.Fatalf("Play of %v: what came of readers is changed in them", l)
		}
	}
}
