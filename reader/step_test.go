package reader_test

import (
	"testing"

	"afterglow/api"
	"afterglow/reader"
)

// P11.2: who enters is in one section more, and outermost since that step, if it was in none; all besides stays.
func TestEnter(t *testing.T) {
	for _, c := range []struct {
		cpu     int
		r, want api.Readers
	}{
		{0, sound(), changed(func(r *api.Readers) { r.Now, r.Nest[0] = 10, 3 })},
		{1, sound(), changed(func(r *api.Readers) { r.Now, r.Nest[1], r.Opened[1] = 10, 1, 10 })},
		{2, sound(), changed(func(r *api.Readers) { r.Now, r.Nest[2] = 10, 2 })},
		{0, api.Readers{Nest: []int{0}, Opened: []int{0}}, api.Readers{Now: 1, Nest: []int{1}, Opened: []int{1}}},
		{7, api.Readers{Nest: make([]int, 8), Opened: make([]int, 8)}, api.Readers{Now: 1, Nest: []int{7: 1}, Opened: []int{7: 1}}},
		{0, api.Readers{Now: 30, Nest: []int{7}, Opened: []int{20}}, api.Readers{Now: 31, Nest: []int{8}, Opened: []int{20}}},
		{1, api.Readers{Now: 2147483646, Nest: []int{8, 0}, Opened: []int{2147483646, 0}}, api.Readers{Now: 2147483647, Nest: []int{8, 1}, Opened: []int{2147483646, 2147483647}}},
	} {
		if r, e := reader.Enter(c.r, c.cpu); e != api.OK || !alike(r, c.want) {
			t.Errorf("Enter(%v, %d): %v, %d, not %v", c.r, c.cpu, r, e, c.want)
		}
	}
}

// P11.2: who leaves is in one section fewer, and in none since no step, if that was the outermost one; all besides stays.
func TestLeave(t *testing.T) {
	for _, c := range []struct {
		cpu     int
		r, want api.Readers
	}{
		{0, sound(), changed(func(r *api.Readers) { r.Now, r.Nest[0] = 10, 1 })},
		{2, sound(), changed(func(r *api.Readers) { r.Now, r.Nest[2], r.Opened[2] = 10, 0, 0 })},
		{0, api.Readers{Now: 1, Nest: []int{1}, Opened: []int{1}}, api.Readers{Now: 2, Nest: []int{0}, Opened: []int{0}}},
		{7, api.Readers{Now: 40, Nest: []int{7: 8}, Opened: []int{7: 12}}, api.Readers{Now: 41, Nest: []int{7: 7}, Opened: []int{7: 12}}},
		{0, api.Readers{Now: 2147483646, Nest: []int{1, 1}, Opened: []int{5, 6}}, api.Readers{Now: 2147483647, Nest: []int{0, 1}, Opened: []int{0, 6}}},
	} {
		if r, e := reader.Leave(c.r, c.cpu); e != api.OK || !alike(r, c.want) {
			t.Errorf("Leave(%v, %d): %v, %d, not %v", c.r, c.cpu, r, e, c.want)
		}
	}
}

// P11.2: no such CPU goes ahead of no room; and that, for want of steps, ahead of no section to be left.
func TestStepErrors(t *testing.T) {
	over := func(r api.Readers) api.Readers {
		r.Now = 2147483647
		return r
	}
	full := api.Readers{Now: 70, Nest: []int{8, 0, 7}, Opened: []int{3, 0, 20}}
	for _, r := range []api.Readers{sound(), full, over(sound()), over(full), mustNew(t, 1), over(mustNew(t, 8))} {
		for _, cpu := range noCpus(len(r.Nest)) {
			if cpu >= 0 && cpu < len(r.Nest) {
				continue
			}
			if q, e := reader.Enter(r, cpu); e != api.ErrArg || !empty(q) {
				t.Errorf("Enter(%v, %d): %v, %d", r, cpu, q, e)
			}
			if q, e := reader.Leave(r, cpu); e != api.ErrArg || !empty(q) {
				t.Errorf("Leave(%v, %d): %v, %d", r, cpu, q, e)
			}
		}
	}
	for _, c := range []struct {
		r                   api.Readers
		cpu                 int
		entersHow, leaveHow api.Errno
	}{
		{full, 0, api.ErrFull, api.OK},
		{full, 1, api.OK, api.ErrNone},
		{full, 2, api.OK, api.OK},
		{over(full), 0, api.ErrFull, api.ErrFull},
		{over(full), 1, api.ErrFull, api.ErrFull},
		{over(full), 2, api.ErrFull, api.ErrFull},
		{mustNew(t, 8), 7, api.OK, api.ErrNone},
	} {
		if q, e := reader.Enter(c.r, c.cpu); e != c.entersHow || e != api.OK && !empty(q) {
			t.Errorf("Enter(%v, %d): %v, %d, not %d", c.r, c.cpu, q, e, c.entersHow)
		}
		if q, e := reader.Leave(c.r, c.cpu); e != c.leaveHow || e != api.OK && !empty(q) {
			t.Errorf("Leave(%v, %d): %v, %d, not %d", c.r, c.cpu, q, e, c.leaveHow)
		}
	}
}

// P11.2: the readers behind all steps, and how many; none may be made, too.
func TestRun(t *testing.T) {
	for _, c := range []struct {
		l    []api.Reading
		want api.Readers
	}{
		{nil, sound()},
		{[]api.Reading{}, sound()},
		{[]api.Reading{enter(1)}, changed(func(r *api.Readers) { r.Now, r.Nest[1], r.Opened[1] = 10, 1, 10 })},
		{[]api.Reading{leave(0), leave(0), enter(0)}, changed(func(r *api.Readers) { r.Now, r.Nest[0], r.Opened[0] = 12, 1, 12 })},
		{[]api.Reading{leave(0), enter(1), leave(0), enter(1)}, changed(func(r *api.Readers) { r.Now, r.Nest, r.Opened = 13, []int{0, 2, 1}, []int{0, 11, 3} })},
		{[]api.Reading{leave(2), enter(2), leave(2), enter(1), leave(1)}, changed(func(r *api.Readers) { r.Now, r.Nest[2], r.Opened[2] = 14, 0, 0 })},
	} {
		if r := mustRun(t, sound(), c.l...); !alike(r, c.want) {
			t.Errorf("Run(%v, %v): %v, not %v", sound(), c.l, r, c.want)
		}
	}
}

// P11.2: the number of the first step that has an error, and that, whatever stands behind it.
func TestRunErrors(t *testing.T) {
	deep := []api.Reading{enter(1), enter(1), enter(1), enter(1), enter(1), enter(1), enter(1), enter(1), enter(1), leave(3)}
	for _, c := range []struct {
		now  int
		l    []api.Reading
		n    int
		want api.Errno
	}{
		{9, []api.Reading{enter(3)}, 1, api.ErrArg},
		{9, []api.Reading{leave(-1), leave(1)}, 1, api.ErrArg},
		{9, []api.Reading{leave(1), enter(3)}, 1, api.ErrNone},
		{9, []api.Reading{enter(1), leave(1), leave(1), enter(8)}, 3, api.ErrNone},
		{9, []api.Reading{leave(0), leave(0), leave(2), leave(2)}, 4, api.ErrNone},
		{9, deep, 9, api.ErrFull},
		{9, append(deep[:8:8], leave(3), enter(1)), 9, api.ErrArg},
		{2147483645, []api.Reading{enter(1), leave(1), leave(1)}, 3, api.ErrFull},
		{2147483645, []api.Reading{enter(1), leave(1), leave(3)}, 3, api.ErrArg},
		{2147483646, []api.Reading{enter(1), enter(0), leave(3)}, 2, api.ErrFull},
		{2147483647, []api.Reading{leave(0)}, 1, api.ErrFull},
	} {
		r := changed(func(r *api.Readers) { r.Now = c.now })
		if q, n, e := reader.Run(r, c.l...); e != c.want || n != c.n || !empty(q) {
			t.Errorf("Run(%v, %v): %v, %d, %d, not %d, %d", r, c.l, q, n, e, c.n, c.want)
		}
	}
}

// P11.2: a row may be as long as there are steps.
func TestRunLong(t *testing.T) {
	var l []api.Reading
	for n := range 150000 {
		l = append(l, enter(n%2), leave(n%2))
	}
	if r := mustRun(t, sound(), l...); !alike(r, changed(func(r *api.Readers) { r.Now = 300009 })) {
		t.Errorf("Run of many: %v", r)
	}
	if r, n, e := reader.Run(sound(), append(l, leave(1), enter(7))...); e != api.ErrNone || n != 300001 || !empty(r) {
		t.Errorf("Run of many, and one that has an error: %v, %d, %d", r, n, e)
	}
}

// P11.2: any steps, made of any readers, one by one and in a row, as they are told otherwise.
func TestPlain(t *testing.T) {
	var c chance
	for range 4000 {
		p := c.somePlain(60)
		if c.below(6) == 0 {
			p.now = 2147483647 - c.below(12)
		}
		first := p.readers()
		r := first
		var l []api.Reading
		var errno api.Errno
		for range c.below(30) {
			o := c.reading(len(p.open))
			if c.below(40) == 0 {
				o.Cpu = c.below(13) - 2
			}
			l = append(l, o)
			step := reader.Leave
			if o.Enter {
				step = reader.Enter
			}
			errno = p.step(o)
			q, e := step(r, o.Cpu)
			if e != errno || e != api.OK && !empty(q) || e == api.OK && !alike(q, p.readers()) {
				t.Fatalf("%v, behind %v: %v, %d, not %v, %d", r, o, q, e, p.readers(), errno)
			}
			if e != api.OK {
				break
			}
			r = q
		}
		many := len(l)
		if errno != api.OK {
			r = api.Readers{}
		}
		if q, n, e := reader.Run(first, append(l, enter(-1))[:many]...); e != errno || n != many || !alike(q, r) {
			t.Fatalf("Run(%v, %v): %v, %d, %d, not %v, %d, %d", first, l, q, n, e, r, many, errno)
		}
	}
}

// keepsApart fails unless readers that are handed in stay as they are, the room behind their rows, too, and share no memory with those that are answered, whose rows share none with each other.
func keepsApart(t *testing.T, r api.Readers, does func(api.Readers) api.Readers) {
	t.Helper()
	in := api.Readers{Now: r.Now, Nest: roomy(r.Nest), Opened: roomy(r.Opened)}
	nest, opened := whole(in.Nest), whole(in.Opened)
	out := does(in)
	if !alike(in, r) || !alike(api.Readers{Nest: whole(in.Nest), Opened: whole(in.Opened)}, api.Readers{Nest: nest, Opened: opened}) {
		t.Fatalf("%v was handed in, and is %v", r, in)
	}
	want := told(out)
	scrub(in.Nest, -7)
	scrub(in.Opened, -8)
	if !alike(out, want) {
		t.Fatalf("%v is kept: %v, not %v", r, out, want)
	}
	nest = whole(out.Nest)
	scrub(out.Opened, -9)
	if !alike(api.Readers{Nest: nest}, api.Readers{Nest: whole(out.Nest)}) {
		t.Fatalf("the rows of %v share memory", want)
	}
	scrub(out.Nest, -9)
	for _, n := range append(whole(in.Nest), whole(in.Opened)...) {
		if n == -9 {
			t.Fatalf("what came of %v is changed in it", r)
		}
	}
}

// P11.2: what is handed in stays as it is, and is not kept.
func TestStepsApart(t *testing.T) {
	var c chance
	for range 300 {
		p := c.somePlain(40)
		l := []api.Reading{c.reading(len(p.open)), c.reading(len(p.open))}
		cpu := c.below(len(p.open))
		keepsApart(t, p.readers(), func(r api.Readers) api.Readers {
			q, _ := reader.Enter(r, cpu)
			return q
		})
		keepsApart(t, p.readers(), func(r api.Readers) api.Readers {
			q, _ := reader.Leave(r, cpu)
			return q
		})
		for n := range 3 {
			keepsApart(t, p.readers(), func(r api.Readers) api.Readers {
				q, _, _ := reader.Run(r, l[:n]...)
				return q
			})
		}
		l = append(l, enter(99))
		reader.Run(p.readers(), l[:2]...)
		if l[2] != enter(99) {
			t.Fatalf("the room behind readings: %v", l)
		}
	}
}

// P11.2: from one thing several others come, and none of them hangs on what is done to another.
func TestBranches(t *testing.T) {
	first := mustRun(t, mustNew(t, 2), enter(0))
	a, b, c := mustRun(t, first, leave(0)), mustRun(t, first, enter(1)), mustRun(t, first, enter(0))
	d := mustRun(t, c, enter(1))
	for _, x := range []struct{ r, want api.Readers }{
		{first, api.Readers{Now: 1, Nest: []int{1, 0}, Opened: []int{1, 0}}},
		{a, api.Readers{Now: 2, Nest: []int{0, 0}, Opened: []int{0, 0}}},
		{b, api.Readers{Now: 2, Nest: []int{1, 1}, Opened: []int{1, 2}}},
		{c, api.Readers{Now: 2, Nest: []int{2, 0}, Opened: []int{1, 0}}},
		{d, api.Readers{Now: 3, Nest: []int{2, 1}, Opened: []int{1, 3}}},
	} {
		if !alike(x.r, x.want) {
			t.Errorf("%v, not %v", x.r, x.want)
		}
	}
}
