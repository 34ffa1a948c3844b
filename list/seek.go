package list

import "afterglow/api"

// Seek: P15.2.
func Seek(head, hash, key uint64) api.Seek {
	return api.Seek{Phase: api.SkLink, Hash: hash, Key: key, Link: head}
}

// seeking is what each phase of one who seeks does.
func seeking() [api.SkLost + 1]phase[api.Seek] {
	return [...]phase[api.Seek]{
		api.SkLink:  {asks: loadLink, then: linked},
		api.SkHash:  {asks: loadHash, then: hashed},
		api.SkKey:   {asks: loadKey, then: keyed},
		api.SkValue: {asks: loadValue, then: found},
		api.SkOver:  {},
		api.SkLost:  {},
	}
}

func loadLink(s api.Seek) api.Access { return load(s.Link, 0) }

func linked(s *api.Seek, n uint64) {
	s.Node, s.Phase = n, api.SkHash
	if n == 0 {
		s.Phase = api.SkOver
	}
}

func loadHash(s api.Seek) api.Access { return load(s.Node, hashWord) }

func hashed(s *api.Seek, n uint64) { pass(s, n, s.Hash, api.SkKey) }

func loadKey(s api.Seek) api.Access { return load(s.Node, keyWord) }

func keyed(s *api.Seek, n uint64) { pass(s, n, s.Key, api.SkValue) }

// pass goes on to the next node, if this one has less than what is sought; if more, what is sought is not there; else to a phase.
func pass(s *api.Seek, n, sought uint64, phase int) {
	switch {
	case n < sought:
		s.Link, s.Phase = s.Node+nextWord, api.SkLink
	case n > sought:
		s.Phase = api.SkOver
	default:
		s.Phase = phase
	}
}

func loadValue(s api.Seek) api.Access { return load(s.Node, valueWord) }

func found(s *api.Seek, n uint64) {
	s.Value, s.Found, s.Phase = n, true, api.SkOver
}

// sought is one who seeks, once it is over: in a list that is always so.
func (r *run) sought(s api.Seek) api.Seek {
	for s.Phase < api.SkOver {
		r.seek(&s)
	}
	return s
}

// Find: P15.4.
func Find(m api.Memory, head, hash, key uint64) (api.Seek, int, api.Errno) {
	var s api.Seek
	r, errno := tried(m, func(r *run) {
		r.list(head)
		s = r.sought(Seek(head, hash, key))
	})
	return s, r.steps, errno
}
