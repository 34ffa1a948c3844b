package seq

import "afterglow/api"

// reader is a read that goes on, and its accesses.
type reader struct {
	api.SeqRead
	access
}

// does is what each phase does that has an access.
func (r *reader) does() map[int]func() bool {
	return map[int]func() bool{
		api.SqBegin: r.begin,
		api.SqData:  r.next,
		api.SqClose: r.close,
	}
}

func (r *reader) begin() bool {
	count, done := r.load(r.At)
	if done && !odd(count) {
		r.Began, r.Values = count, nil
		r.goOn()
	}
	return done
}

// next puts a word behind those that were read. They are cut where they end, for the room behind may be another one's.
func (r *reader) next() bool {
	many := len(r.Values)
	value, done := r.load(r.From + many)
	if done {
		r.Values = append(r.Values[:many:many], value)
		r.goOn()
	}
	return done
}

// goOn is to the next word, or, if there is none, to the counter.
func (r *reader) goOn() {
	r.Phase = api.SqData
	if len(r.Values) == r.Many {
		r.Phase = api.SqClose
	}
}

func (r *reader) close() bool {
	count, done := r.load(r.At)
	switch {
	case done && count == r.Began:
		r.Phase = api.SqOver
	case done:
		r.Phase, r.Tries = api.SqBegin, min(r.Tries+1, api.MaxTries)
	}
	return done
}

// told is the read as it is by now.
func (r *reader) told() api.SeqRead {
	s := r.SeqRead
	s.Values = own(s.Values)
	return s
}

// StepRead: P6.3.
func StepRead(m api.Memory, s api.SeqRead) (api.Memory, api.SeqRead, api.Errno) {
	m, errno := anew(m)
	if errno != api.OK {
		return api.Memory{}, api.SeqRead{}, errno
	}
	if errno := CheckRead(s); errno != api.OK {
		return api.Memory{}, api.SeqRead{}, errno
	}
	r := &reader{s, accesses(&m)}
	step(&r.Phase, r.does())
	return m, r.told(), api.OK
}
