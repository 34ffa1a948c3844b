package queue

import "afterglow/api"

// segment is the place of a period's segment: of those that are done, that wait, and that are next.
func segment(over, period uint64) int {
	at := 0
	switch {
	case period > over+1:
		at++
		fallthrough
	case period > over:
		at++
	}
	return at
}

// joined is two rows that are in order as one; where neither of b's goes ahead those of a do.
func joined[T any](a, b []T, ahead func(ofB, ofA T) bool) []T {
	l := make([]T, 0, len(a)+len(b))
	for _, one := range b {
		for len(a) > 0 && !ahead(one, a[0]) {
			l = append(l, a[0])
			a = a[1:]
		}
		l = append(l, one)
	}
	return append(l, a...)
}

// Segments: P13.4.
func Segments(q api.Queue) [3]int {
	var many [3]int
	if !may(q) {
		return many
	}
	for _, one := range q.List {
		many[segment(q.Over, one.Period)]++
	}
	return many
}

// Join: P13.4.
func Join(a, b api.Queue) (api.Queue, api.Errno) {
	if !may(a) || !may(b) {
		return api.Queue{}, api.ErrQueue
	}
	if a.Over != b.Over {
		return api.Queue{}, api.ErrArg
	}
	if len(a.List)+len(b.List) > api.MaxCallbacks {
		return api.Queue{}, api.ErrFull
	}
	sooner := func(one, other api.Callback) bool { return one.Period < other.Period }
	return api.Queue{List: joined(a.List, b.List, sooner), Over: a.Over}, api.OK
}
