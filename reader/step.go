package reader

import "afterglow/api"

// turn is readers in memory of their own, that make steps.
type turn struct {
	api.Readers
}

// own is a row in memory of its own.
func own[T any](row []T) []T {
	to := make([]T, len(row))
	copy(to, row)
	return to
}

// enter has a CPU enter a section.
func (t *turn) enter(cpu int) api.Errno {
	switch {
	case !has(t.Readers, cpu):
		return api.ErrArg
	case t.Now == last || t.Nest[cpu] == api.MaxNest:
		return api.ErrFull
	}
	t.Now++
	if t.Nest[cpu] == 0 {
		t.Opened[cpu] = t.Now
	}
	t.Nest[cpu]++
	return api.OK
}

// leave has a CPU leave the innermost section.
func (t *turn) leave(cpu int) api.Errno {
	switch {
	case !has(t.Readers, cpu):
		return api.ErrArg
	case t.Now == last:
		return api.ErrFull
	case t.Nest[cpu] == 0:
		return api.ErrNone
	}
	t.Now++
	t.Nest[cpu]--
	if t.Nest[cpu] == 0 {
		t.Opened[cpu] = 0
	}
	return api.OK
}

// Run: P11.2.
func Run(r api.Readers, l ...api.Reading) (api.Readers, int, api.Errno) {
	if !may(r) {
		return api.Readers{}, 0, api.ErrReaders
	}
	t := &turn{api.Readers{Now: r.Now, Nest: own(r.Nest), Opened: own(r.Opened)}}
	for i, reading := range l {
		step := (*turn).leave
		if reading.Enter {
			step = (*turn).enter
		}
		if errno := step(t, reading.Cpu); errno != api.OK {
			return api.Readers{}, i + 1, errno
		}
	}
	return t.Readers, len(l), api.OK
}

// Enter: P11.2.
func Enter(r api.Readers, cpu int) (api.Readers, api.Errno) {
	r, _, errno := Run(r, api.Reading{Cpu: cpu, Enter: true})
	return r, errno
}

// Leave: P11.2.
func Leave(r api.Readers, cpu int) (api.Readers, api.Errno) {
	r, _, errno := Run(r, api.Reading{Cpu: cpu})
	return r, errno
}
