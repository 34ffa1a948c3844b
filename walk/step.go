package walk

import (
	"afterglow/api"
	"afterglow/list"
)

// near is the words from a place on, as many as a node has, or as are left. A step is made there as if no more were, so that it costs no more where there are many; none is a fault.
func (p *walk) near(at uint64) api.Memory {
	m := p.now.Memory
	to := min(at+api.NodeWords, uint64(len(m.Words)))
	return api.Memory{Words: m.Words[at:to], Live: m.Live[at:to]}
}

// seek makes the step of one who seeks, if there is one, and says whether there was.
func (p *walk) seek(s *api.Seek) bool {
	switch {
	case s.Phase == api.SkLink:
		at := s.Link
		s.Link = 0
		_, *s, _ = list.StepSeek(p.near(at), *s)
		s.Link = at
	case s.Phase < api.SkOver:
		at := s.Node
		s.Node = 0
		_, *s, _ = list.StepSeek(p.near(at), *s)
		s.Node = at
		if s.Phase == api.SkLink { // it goes on behind this node
			s.Link += at
		}
	default:
		return false
	}
	return true
}

// edit makes the step of one who changes the list.
func (p *walk) edit(e *api.Edit) {
	place := &e.Node.At
	if e.Phase == api.EdLink {
		place = &e.Link
	}
	at := *place
	*place = 0
	m, is, _ := list.StepEdit(p.near(at), *e)
	copy(p.now.Memory.Words[at:], m.Words)
	*e = is
	*place = at
}

// ask begins the next job: the writer seeks what it is about. If there is none left, it seeks nothing.
func (p *walk) ask() {
	p.now.Edits, p.now.Edit, p.now.Writer = false, api.Edit{}, api.Seek{}
	if p.now.Done < len(p.Jobs) {
		n := p.Jobs[p.now.Done].Node
		p.now.Writer = list.Seek(p.Head, n.Hash, n.Key)
	}
}

// end ends a job.
func (p *walk) end() {
	p.now.Done++
	p.ask()
}

// choose goes on from where the writer has sought: to a change, or, where there is nothing to be put, or cut, to the next job.
func (p *walk) choose() {
	j, s := p.Jobs[p.now.Done], p.now.Writer
	switch {
	case j.Cuts != s.Found:
		p.end()
	case j.Cuts:
		p.now.Edits, p.now.Edit = true, list.Cut(s.Link, s.Node)
	default:
		p.now.Edits, p.now.Edit = true, list.Put(s.Link, j.Node, s.Node)
	}
}

// write makes the step of the writer, if there is one, and says whether there was.
func (p *walk) write() bool {
	switch {
	case p.now.Done == len(p.Jobs):
		return false
	case p.now.Edits:
		p.edit(&p.now.Edit)
		if p.now.Edit.Phase == api.EdOver {
			p.end()
		}
	default:
		p.seek(&p.now.Writer)
		if p.now.Writer.Phase == api.SkOver {
			p.choose()
		}
	}
	return true
}
