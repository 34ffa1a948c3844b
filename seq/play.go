package seq

import "afterglow/api"

// row is writes, made one behind the other: the one that goes on, and those behind it.
type row struct {
	writer
	left []api.SeqWrite
}

// rowOf is a row of writes that has not begun: ahead of the first one there is none that goes on.
func rowOf(writes []api.SeqWrite, a access) *row {
	return &row{writer{api.SeqWrite{Phase: api.SqOver}, a}, writes}
}

// turn goes on to the first write that is neither over nor lost, if there is one.
func (r *row) turn() {
	for len(r.left) > 0 && (r.Phase == api.SqOver || r.Phase == api.SqLost) {
		r.SeqWrite, r.left = r.left[0], r.left[1:]
	}
}

// checkPlay is what is wrong with a read, and writes.
func checkPlay(s api.SeqRead, writes []api.SeqWrite) api.Errno {
	if errno := CheckRead(s); errno != api.OK {
		return errno
	}
	for _, w := range writes {
		if errno := CheckWrite(w); errno != api.OK {
			return errno
		}
	}
	return api.OK
}

// Play: P6.5.
func Play(m api.Memory, r api.SeqRead, writes []api.SeqWrite, picks []bool) (api.Memory, api.SeqRead, api.Errno) {
	m, errno := anew(m)
	if errno != api.OK {
		return api.Memory{}, api.SeqRead{}, errno
	}
	if errno := checkPlay(r, writes); errno != api.OK {
		return api.Memory{}, api.SeqRead{}, errno
	}
	a := accesses(&m)
	read, write := &reader{r, a}, rowOf(writes, a)
	reads, wrote := read.does(), write.does()
next:
	if len(picks) == 0 {
		return m, read.told(), api.OK
	}
	if picks[0] {
		step(&read.Phase, reads)
	} else {
		write.turn()
		step(&write.Phase, wrote)
	}
	picks = picks[1:]
	goto next
}
