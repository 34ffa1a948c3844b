package list

import (
	"afterglow/api"
	"afterglow/memory"
)

// phase is what one who seeks, or changes, asks for in it, and what comes of what that word held. Where there is no step it asks for nothing.
type phase[W any] struct {
	asks func(w W) api.Access
	then func(w *W, n uint64)
}

// load is of the word so many behind a place. A place that is too great is taken for MaxWords: neither is there, nor what is behind.
func load(place, behind uint64) api.Access {
	return api.Access{Kind: api.AcLoad, At: int(min(place, api.MaxWords) + behind)}
}

// store is so, of what it will hold.
func store(place, behind, n uint64) api.Access {
	a := load(place, behind)
	a.Kind, a.New = api.AcStore, n
	return a
}

// access makes a step. It is made in a memory of that word alone, so that it costs no more where there are many; of a word that is not there, which is a fault, beside the last one.
func (r *run) access(a api.Access) api.Got {
	at := min(a.At, len(r.Words)-1)
	a.At -= at
	word := api.Memory{Words: r.Words[at : at+1], Live: r.Live[at : at+1], Fault: r.Fault}
	word, got, _ := memory.Step(word, a)
	r.Words[at], r.Fault = word.Words[0], word.Fault
	r.steps++
	return got
}

// step makes the step of one in a phase, if there is one, and says whether there was no fault.
func step[W any](r *run, p phase[W], w *W) bool {
	if p.asks == nil {
		return true
	}
	got := r.access(p.asks(*w))
	if got.Done {
		p.then(w, got.Value)
	}
	return got.Done
}

// seek makes the step of one who seeks.
func (r *run) seek(s *api.Seek) {
	if !step(r, seeking()[s.Phase], s) {
		s.Phase = api.SkLost
	}
}

// edit makes the step of one who changes.
func (r *run) edit(e *api.Edit) {
	if !step(r, editing()[e.Phase], e) {
		e.Phase = api.EdLost
	}
}

// StepSeek: P15.3.
func StepSeek(m api.Memory, s api.Seek) (api.Memory, api.Seek, api.Errno) {
	r, errno := begin(m)
	if errno == api.OK && (s.Phase < api.SkLink || s.Phase > api.SkLost) {
		errno = api.ErrSeek
	}
	if errno != api.OK {
		return api.Memory{}, api.Seek{}, errno
	}
	r.seek(&s)
	return r.Memory, s, api.OK
}

// StepEdit: P15.3.
func StepEdit(m api.Memory, s api.Edit) (api.Memory, api.Edit, api.Errno) {
	r, errno := begin(m)
	if errno == api.OK && (s.Phase < api.EdKey || s.Phase > api.EdLost) {
		errno = api.ErrSeek
	}
	if errno != api.OK {
		return api.Memory{}, api.Edit{}, errno
	}
	r.edit(&s)
	return r.Memory, s, api.OK
}
