package walk

import (
	"iter"
	"slices"

	"afterglow/api"
)

// reader is one who reads in a walk.
type reader struct {
	*walk
	at int
}

// read makes its step, if there is one, and says whether there was.
func (r reader) read() bool {
	return r.seek(&r.now.Readers[r.at])
}

// turns are whose step each pick is; of readers who are not there there is none.
func (p *walk) turns() [1 + api.MaxCpus]func() bool {
	turns := [1 + api.MaxCpus]func() bool{p.write}
	for at := range p.now.Readers {
		turns[1+at] = reader{p, at}.read
	}
	return turns
}

// steps tells the steps that are picked, one behind the other, each ahead of its being made; a pick of nobody is passed over.
func (p *walk) steps(picks iter.Seq[int]) iter.Seq[func() bool] {
	return func(yield func(func() bool) bool) {
		turns := p.turns()
		for who := range picks {
			if who < 0 || who >= len(turns) || turns[who] == nil {
				continue
			}
			if !yield(turns[who]) {
				return
			}
		}
	}
}

// writer picks the writer, again and again.
func writer(yield func(int) bool) {
	for yield(0) {
	}
}

// Play: P17.2.
func Play(w api.Walk, picks ...int) (api.Walked, api.Errno) {
	p, errno := tried(w, func(p *walk) {
		for step := range p.steps(slices.Values(picks)) {
			step()
		}
	})
	return p.now, errno
}

// Whole: P17.4.
func Whole(w api.Walk) (api.Walked, int, api.Errno) {
	many := 0
	p, errno := tried(w, func(p *walk) {
	over:
		for step := range p.steps(writer) {
			switch {
			case step():
				many++
			default:
				break over
			}
		}
	})
	return p.now, many, errno
}
