package walk

import (
	"cmp"
	"slices"

	"afterglow/api"
)

// order is that of nodes in a list: by their hash, then by their key.
func order(a, b api.Node) int {
	return cmp.Or(cmp.Compare(a.Hash, b.Hash), cmp.Compare(a.Key, b.Key))
}

// behind is what the list has behind a job, where these nodes were in it.
func behind(nodes []api.Node, j api.Job) []api.Node {
	at, has := slices.BinarySearchFunc(nodes, j.Node, order)
	switch {
	case j.Cuts && has:
		return slices.Delete(nodes, at, at+1)
	case !j.Cuts && !has:
		return slices.Insert(nodes, at, j.Node)
	}
	return nodes
}

// After: P17.3.
func After(w api.Walk, jobs int) ([]api.Node, api.Errno) {
	p, errno := tried(w, func(p *walk) {
		must(jobs >= 0 && jobs <= len(p.Jobs), api.ErrArg)
		for _, j := range p.Jobs[:jobs] {
			p.nodes = behind(p.nodes, j)
		}
	})
	return p.nodes, errno
}
