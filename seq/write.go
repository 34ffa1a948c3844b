package seq

import "afterglow/api"

// writer is a write that goes on, and its accesses.
type writer struct {
	api.SeqWrite
	access
}

// does is what each phase does that has an access.
func (w *writer) does() map[int]func() bool {
	return map[int]func() bool{
		api.SqBegin: w.begin,
		api.SqOpen:  w.open,
		api.SqData:  w.next,
		api.SqClose: w.close,
	}
}

func (w *writer) begin() bool {
	count, done := w.load(w.At)
	if done && !odd(count) {
		w.Began, w.Phase = count, api.SqOpen
	}
	return done
}

func (w *writer) open() bool {
	done := w.store(w.At, w.Began+1)
	if done {
		w.Phase = api.SqData
	}
	return done
}

func (w *writer) next() bool {
	done := w.store(w.From+w.Wrote, w.Values[w.Wrote])
	if done {
		w.Wrote++
		if w.Wrote == len(w.Values) {
			w.Phase = api.SqClose
		}
	}
	return done
}

func (w *writer) close() bool {
	done := w.store(w.At, w.Began+2)
	if done {
		w.Phase = api.SqOver
	}
	return done
}

// told is the write as it is by now.
func (w *writer) told() api.SeqWrite {
	s := w.SeqWrite
	s.Values = own(s.Values)
	return s
}

// StepWrite: P6.4.
func StepWrite(m api.Memory, s api.SeqWrite) (api.Memory, api.SeqWrite, api.Errno) {
	m, errno := anew(m)
	if errno != api.OK {
		return api.Memory{}, api.SeqWrite{}, errno
	}
	if errno := CheckWrite(s); errno != api.OK {
		return api.Memory{}, api.SeqWrite{}, errno
	}
	w := &writer{s, accesses(&m)}
	step(&w.Phase, w.does())
	return m, w.told(), api.OK
}
