package walk_test

import (
	"fmt"
	"slices"
	"testing"

	"afterglow/api"
	"afterglow/list"
	"afterglow/walk"
)

// had is what the list had of what a reader seeks, from ahead of its first step on: whether it always had it, and with which values.
type had struct {
	always bool
	values []uint64
}

// moment is where all are, and what the readers' keys had.
type moment struct {
	s   api.Walked
	had []had
}

// seen is what was had, once the list has these nodes, too.
func (h had) seen(l []api.Node, r api.Seek) had {
	at := slices.IndexFunc(l, func(n api.Node) bool { return n.Hash == r.Hash && n.Key == r.Key })
	if at < 0 {
		h.always = false
	} else if !slices.Contains(h.values, l[at].Value) {
		h.values = append(slices.Clone(h.values), l[at].Value)
	}
	return h
}

// first is all at first.
func first(w api.Walk) moment {
	return moment{s: plainBegin(w), had: make([]had, len(w.Keys))}
}

// behind is all behind a pick: who begins to read, or reads on, sees what the list has by then; who is over sees nothing more.
func (m moment) behind(t *testing.T, w api.Walk, pick int) moment {
	t.Helper()
	was, l := m, plainNodes(m.s.Memory, w.Head)
	m = moment{s: plainPick(t, w, m.s, pick), had: slices.Clone(m.had)}
	is := plainNodes(m.s.Memory, w.Head)
	for i, r := range was.s.Readers {
		begins := pick == i+1 && r == plainBegin(w).Readers[i]
		if begins {
			m.had[i] = had{always: true}.seen(l, r)
		}
		if begins || r != plainBegin(w).Readers[i] && r.Phase != api.SkOver {
			m.had[i] = m.had[i].seen(is, r)
		}
	}
	return m
}

// mustHold fails unless no access was a fault, the list is one, with what it has behind the jobs that are done, or one more, and who is over found what there always was, and nothing that there never was.
func (m moment) mustHold(t *testing.T, w api.Walk) {
	t.Helper()
	l, e := list.Nodes(m.s.Memory, w.Head)
	if e != api.OK || m.s.Memory.Fault {
		t.Fatalf("%v, of %v: %d", m.s, w, e)
	}
	after, e := walk.After(w, m.s.Done)
	if e == api.OK && !slices.Equal(l, after) {
		after, e = walk.After(w, m.s.Done+1)
	}
	if e != api.OK || !slices.Equal(l, after) {
		t.Fatalf("%v, of %v, has %v, not %v", m.s, w, l, after)
	}
	for i, r := range m.s.Readers {
		switch h := m.had[i]; {
		case r.Phase > api.SkOver:
			t.Fatalf("%v, of %v: %v is lost", m.s, w, r)
		case r.Phase == api.SkOver && (h.always && !r.Found || r.Found && !slices.Contains(h.values, r.Value)):
			t.Fatalf("%v, of %v: %v, though it had %v", m.s, w, r, h)
		}
	}
}

// path is a moment, and the picks by which it was come to.
type path struct {
	moment
	picks []int
}

// goThrough goes through all that can be, whoever steps when; each moment is held against Play of the picks by which it was come to. It tells how many there are, and how often readers that are over have found something.
func goThrough(t *testing.T, w api.Walk) (int, int) {
	t.Helper()
	met, found := map[string]bool{}, 0
	for left := []path{{moment: first(w)}}; len(left) > 0; {
		p := left[len(left)-1]
		left = left[:len(left)-1]
		key := fmt.Sprint(p.moment)
		if met[key] {
			continue
		}
		met[key] = true
		p.mustHold(t, w)
		if s, e := walk.Play(w, p.picks...); e != api.OK || !sameWalked(s, p.s) {
			t.Fatalf("Play(%v, %v): %v, %d, not %v", w, p.picks, s, e, p.s)
		}
		for _, r := range p.s.Readers {
			if r.Found {
				found++
			}
		}
		for pick := range len(w.Keys) + 1 {
			left = append(left, path{moment: p.behind(t, w, pick), picks: append(slices.Clone(p.picks), pick)})
		}
	}
	return len(met), found
}

// P17.5: all that can be of a writer who cuts, and puts, what each reader of some keys seeks, and what stands around it.
func TestWhoeverSteps(t *testing.T) {
	jobs := [][]api.Job{
		{put(14, 2, 1, 50), cut(2, 3), put(18, 2, 3, 31), cut(2, 4)},
		{cut(2, 3), put(14, 2, 3, 31), cut(2, 3), put(18, 2, 3, 32)},
		{cut(1, 9), cut(2, 3), cut(2, 4), put(14, 2, 4, 41)},
		{put(14, 1, 9, 91), cut(1, 9), put(18, 1, 9, 92)},
		{put(14, 0, 0, 1), put(18, 2, 3, 31), put(22, wholeWord, 4, 2), cut(3, 3)},
	}
	for _, jobs := range jobs {
		for _, key := range [][2]uint64{{1, 9}, {2, 3}, {2, 4}, {2, 1}, {0, 0}, {2, 5}, {wholeWord, 4}} {
			w := three()
			w.Jobs, w.Keys = jobs, [][2]uint64{key}
			many, _ := goThrough(t, w)
			if least := 3 * wholeSteps(w); many < least {
				t.Errorf("%v, %v: only %d were met", jobs, key, many)
			}
		}
	}
}

// P17.5: so of two readers at one time, who do not disturb each other.
func TestTwoReaders(t *testing.T) {
	w := three()
	w.Jobs = []api.Job{cut(2, 3), put(14, 2, 3, 31)}
	w.Keys = [][2]uint64{{2, 3}, {1, 9}}
	if many, found := goThrough(t, w); many < 1000 || found < 300 {
		t.Errorf("only %d were met, %d found", many, found)
	}
}

// P17.5: any walks, any picks, moment by moment.
func TestAnyMoments(t *testing.T) {
	c := chance(175)
	finds, misses, changed := 0, 0, 0
	for range 200 {
		w := c.someWalk(16)
		m := first(w)
		picks := c.somePicks(w, 300)
		for _, pick := range picks {
			m = m.behind(t, w, pick)
			m.mustHold(t, w)
		}
		if s, e := walk.Play(w, picks...); e != api.OK || !sameWalked(s, m.s) {
			t.Fatalf("Play(%v, %v): %v, %d, not %v", w, picks, s, e, m.s)
		}
		for i, r := range m.s.Readers {
			switch {
			case r.Phase != api.SkOver:
			case !m.had[i].always && len(m.had[i].values) > 0:
				changed++
			case r.Found:
				finds++
			default:
				misses++
			}
		}
	}
	if finds < 100 || misses < 100 || changed < 5 {
		t.Errorf("%d found, %d not, %d as it fell", finds, misses, changed)
	}
}

// P17.5: as the steps fall, what is cut, or put, while one reads is found, or not.
func TestAsTheStepsFall(t *testing.T) {
	w := three()
	w.Jobs, w.Keys = []api.Job{cut(2, 3), put(14, 2, 3, 31)}, [][2]uint64{{2, 3}}
	var outcomes []uint64
	for ahead := range 7 {
		for writes := range 30 {
			s := mustPlay(t, w, slices.Concat(slices.Repeat([]int{1}, ahead), make([]int, writes), slices.Repeat([]int{1}, 12))...)
			if r := s.Readers[0]; r.Phase != api.SkOver {
				t.Fatalf("%v", r)
			} else if !slices.Contains(outcomes, r.Value) {
				outcomes = append(outcomes, r.Value)
			}
		}
	}
	slices.Sort(outcomes)
	if !slices.Equal(outcomes, []uint64{0, 30, 31}) {
		t.Errorf("%v", outcomes)
	}
}

// P17.5: who stands on a node that was cut reads on, though all that it led to is cut as well.
func TestReadsOn(t *testing.T) {
	w := three()
	w.Jobs = []api.Job{cut(1, 9), cut(2, 3), cut(2, 4), put(14, 2, 4, 41)}
	w.Keys = [][2]uint64{{2, 4}, {2, 4}}
	picks := slices.Concat([]int{1}, make([]int, wholeSteps(w)), slices.Repeat([]int{1, 2}, 20))
	s := mustPlay(t, w, picks...)
	if !s.Readers[0].Found || s.Readers[0].Value != 40 || s.Readers[0].Node != 9 || !s.Readers[1].Found || s.Readers[1].Value != 41 || s.Memory.Fault {
		t.Errorf("%v", s.Readers)
	}
}
