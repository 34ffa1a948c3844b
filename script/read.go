package script

import "afterglow/api"

// reader is the script that has been read, and what is left of the words.
type reader struct {
	api.Script
	left []uint64
}

// begin reads the first word. No words say what a word of 0 says.
func begin(words []uint64) *reader {
	r := &reader{left: words}
	first, _ := r.next()
	r.Cpus, r.Pages = get(first, cpusPart)+1, get(first, pagesPart)+1
	r.Lists = make([][]api.Call, r.Cpus)
	return r
}

// next takes the next word off, if one is left.
func (r *reader) next() (uint64, bool) {
	if len(r.left) == 0 {
		return 0, false
	}
	return r.take(1)[0], true
}

// take takes so many words off, which are left. What is left ends where the words do, whatever room is behind them.
func (r *reader) take(many int) []uint64 {
	words, end := r.left, len(r.left)
	r.left = words[many:end:end]
	return words[:many:many]
}

// cpu is the CPU of a record, of those that there are.
func (r *reader) cpu(head uint64) int {
	return get(head, cpuPart) % r.Cpus
}

// call reads a call. If it is one too many, its words are done with all the same.
func (r *reader) call(head uint64) {
	if len(r.left) < callWords-1 {
		return
	}
	said := r.take(callWords - 1)
	if calls(r.Lists) >= api.MaxCalls {
		return
	}
	c := api.Call{Kind: said[0]}
	copy(c.Args[:], said[1:])
	cpu := r.cpu(head)
	r.Lists[cpu] = append(r.Lists[cpu], c)
}

// picks reads picks, as many of them as there is room for.
func (r *reader) picks(head uint64) {
	cpu := r.cpu(head)
	for range min(get(head, manyPart)+1, api.MaxPicks-len(r.Picks)) {
		r.Picks = append(r.Picks, cpu)
	}
}

// Read: P3.3.
func Read(words []uint64) api.Script {
	r := begin(words)
	reads := [kinds]func(head uint64){callKind: r.call, picksKind: r.picks}
records:
	for {
		head, there := r.next()
		read := reads[get(head, kindPart)]
		switch {
		case !there:
			break records
		case read != nil:
			read(head)
		}
	}
	return r.Script
}
