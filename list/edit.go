package list

import "afterglow/api"

// Put: P15.2.
func Put(link uint64, n api.Node, next uint64) api.Edit {
	return api.Edit{Phase: api.EdKey, Link: link, Node: n, Next: next}
}

// Cut: P15.2.
func Cut(link, node uint64) api.Edit {
	return api.Edit{Phase: api.EdLoad, Cuts: true, Link: link, Node: api.Node{At: node}}
}

// editing is what each phase of one who changes does.
func editing() [api.EdLost + 1]phase[api.Edit] {
	return [...]phase[api.Edit]{
		api.EdKey:   {asks: storeKey, then: goOn},
		api.EdValue: {asks: storeValue, then: goOn},
		api.EdHash:  {asks: storeHash, then: goOn},
		api.EdNext:  {asks: storeNext, then: storedNext},
		api.EdLoad:  {asks: loadNext, then: loadedNext},
		api.EdLink:  {asks: storeLink, then: goOn},
		api.EdOver:  {},
		api.EdLost:  {},
	}
}

// goOn is to the phase that has the next number.
func goOn(e *api.Edit, _ uint64) { e.Phase++ }

func storeKey(e api.Edit) api.Access { return store(e.Node.At, keyWord, e.Node.Key) }

func storeValue(e api.Edit) api.Access { return store(e.Node.At, valueWord, e.Node.Value) }

func storeHash(e api.Edit) api.Access { return store(e.Node.At, hashWord, e.Node.Hash) }

func storeNext(e api.Edit) api.Access { return store(e.Node.At, nextWord, e.Next) }

func storedNext(e *api.Edit, _ uint64) { e.Phase = api.EdLink }

func loadNext(e api.Edit) api.Access { return load(e.Node.At, nextWord) }

func loadedNext(e *api.Edit, n uint64) { e.Next, e.Phase = n, api.EdLink }

// storeLink is of where the list leads from then on: past a node that goes, or to one that comes.
func storeLink(e api.Edit) api.Access {
	if e.Cuts {
		return store(e.Link, 0, e.Next)
	}
	return store(e.Link, 0, e.Node.At)
}

// change makes all steps of one who changes a list: none of them is a fault.
func (r *run) change(e api.Edit) {
	for e.Phase < api.EdOver {
		r.edit(&e)
	}
}

// Insert: P15.5.
func Insert(m api.Memory, head uint64, n api.Node) (api.Memory, int, api.Errno) {
	r, errno := tried(m, func(r *run) {
		r.list(head)
		must(n.At != 0 && r.room(n.At), api.ErrArg)
		s := r.sought(Seek(head, n.Hash, n.Key))
		must(!s.Found, api.ErrThere)
		r.change(Put(s.Link, n, s.Node))
	})
	return r.Memory, r.steps, errno
}

// Remove: P15.5.
func Remove(m api.Memory, head, hash, key uint64) (api.Memory, uint64, api.Errno) {
	var at uint64
	r, errno := tried(m, func(r *run) {
		r.list(head)
		s := r.sought(Seek(head, hash, key))
		must(s.Found, api.ErrNone)
		r.change(Cut(s.Link, s.Node))
		at = s.Node
	})
	return r.Memory, at, errno
}
