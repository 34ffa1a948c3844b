package grace_test

import (
	"testing"

	"afterglow/api"
	"afterglow/grace"
	"afterglow/sched"
)

// few is of how many CPUs at most all that can be is gone through.
const few = 3

// known is what can be, but for how many steps were made, and how many periods are over: what comes of it hangs on nothing else.
type known struct {
	nest  [few]int
	ahead int
	on    bool
	needs [few]bool
	asked [2]bool     // of the next period, and the one behind it, whether it was asked for
	owed  [2][few]int // of both, how many sections of each CPU are still open that were open when it was asked for
}

// place is one that can be.
type place struct {
	r api.Readers
	g api.Grace
	known
}

// begins is one ahead of all ticks.
func begins(t *testing.T, cpus int) place {
	r, g := mustNew(t, cpus)
	return place{r: r, g: g}
}

// left is p, a CPU having left a section: it owes none that it is not in any more.
func (p place) left(cpu int) place {
	for i := range p.owed {
		p.owed[i][cpu] = min(p.owed[i][cpu], p.r.Nest[cpu])
	}
	return p
}

// behind is p behind a tick, if that has no error. It fails, if a period is over that was not asked for, or ahead of a section that was open when it was; or if what comes may not be.
func (p place) behind(t *testing.T, tick api.Tick) (place, bool) {
	t.Helper()
	r, g, numbers, e := grace.Play(p.r, p.g, tick)
	if e != api.OK {
		return place{}, false
	}
	if grace.Check(g) != api.OK || g.Done < p.g.Done || g.Done > p.g.Done+1 || g.Asked < p.g.Asked {
		t.Fatalf("%v, behind %v: %v", p, tick, g)
	}
	q := place{r, g, p.known}
	for _, n := range numbers {
		at := n - g.Done - 1
		if grace.Over(g, n) || at < 0 || at > 1 {
			t.Fatalf("%v, behind %v: %v; %d was asked for", p, tick, g, n)
		}
		q.asked[at] = true
		copy(q.owed[at][:], r.Nest)
	}
	if tick.Kind == api.TiLeave {
		q = q.left(tick.Cpu)
	}
	if g.Done > p.g.Done {
		if !q.asked[0] || q.owed[0] != ([few]int{}) {
			t.Fatalf("%v, behind %v: %v: a period is over that was not asked for, or too soon", p, tick, g)
		}
		q.asked, q.owed = [2]bool{q.asked[1]}, [2][few]int{q.owed[1]}
	}
	copy(q.nest[:], r.Nest)
	copy(q.needs[:], g.Needs)
	q.ahead, q.on = g.Asked-g.Done, g.On
	return q, true
}

// reached are all places that can be, of sections two deep at most.
func reached(t *testing.T, cpus int) []place {
	l := []place{begins(t, cpus)}
	met := map[known]int{l[0].known: 1}
	for i := 0; i < len(l); i++ {
		p := l[i]
		for cpu := range cpus {
			for kind := api.TiEnter; kind <= api.TiPick; kind++ {
				if kind == api.TiEnter && p.nest[cpu] == 2 {
					continue
				}
				q, ok := p.behind(t, api.Tick{Kind: kind, Cpu: cpu})
				if ok != (kind != api.TiLeave || p.nest[cpu] > 0) {
					t.Fatalf("%v: the kind %d of the CPU %d: %v", p, kind, cpu, ok)
				}
				if ok && met[q.known] == 0 {
					met[q.known]++
					l = append(l, q)
				}
			}
		}
	}
	return l
}

// round is where a row of picks is: a grace; which CPUs were picked in this round; how many whole ones are behind.
type round struct {
	ahead, done, rounds int
	on                  bool
	needs, picked       [few]bool
}

// mustEnd fails unless all that is asked for is over behind so many rounds, whichever CPUs are picked, all of them being quiet.
func mustEnd(t *testing.T, g api.Grace, most int) {
	t.Helper()
	cpus := len(g.Needs)
	type at struct {
		g api.Grace
		round
	}
	l := []at{{g: g}}
	met := map[round]int{}
	for i := 0; i < len(l); i++ {
		for cpu := range cpus {
			h, e := grace.Pick(l[i].g, cpu, true)
			if e != api.OK || grace.Check(h) != api.OK {
				t.Fatalf("Pick(%v, %d, true): %v, %d", l[i].g, cpu, h, e)
			}
			a := at{h, l[i].round}
			a.picked[cpu] = true
			all := 0
			for _, picked := range a.picked {
				if picked {
					all++
				}
			}
			if all == cpus {
				a.rounds, a.picked = a.rounds+1, [few]bool{}
			}
			if a.rounds == most {
				if !grace.Over(h, g.Asked) && g.Asked > 0 || h.On || h.Done != g.Asked {
					t.Fatalf("%v, behind %d rounds: %v", g, most, h)
				}
				continue
			}
			a.done, a.ahead, a.on = h.Done, h.Asked-h.Done, h.On
			copy(a.needs[:], h.Needs)
			if met[a.round] == 0 {
				met[a.round]++
				l = append(l, a)
			}
		}
	}
}

// P12.6: all that can be, of up to three CPUs, and sections two deep: what comes may be, no period is over too soon, or that was not asked for, and all end in time.
func TestWhatever(t *testing.T) {
	for cpus, least := range []int{0, 20, 200, 2000} {
		if cpus == 0 {
			continue
		}
		ended := map[known]int{}
		l := reached(t, cpus)
		if len(l) < least {
			t.Errorf("of %d CPUs %d places can be", cpus, len(l))
		}
		for _, p := range l {
			k := known{ahead: p.ahead, on: p.on, needs: p.needs}
			if ended[k] > 0 {
				continue
			}
			ended[k]++
			if p.on {
				mustEnd(t, p.g, 5)
			} else {
				mustEnd(t, p.g, 3)
			}
		}
	}
}

// P12.6: any graces, behind any rows of picks of as many rounds, all CPUs being quiet.
func TestRounds(t *testing.T) {
	var c chance
	for range 2000 {
		p := c.somePlain()
		g := p.grace()
		r, _ := mustNew(t, p.cpus)
		many := 3
		if g.On {
			many = 5
		}
		var row []int
		var l []api.Tick
		for sched.Rounds(p.cpus, row) < many {
			cpu := c.below(p.cpus)
			row, l = append(row, cpu), append(l, picks(cpu))
		}
		s, h, numbers := mustPlay(t, r, g, l...)
		if !alikeReaders(s, r) || len(numbers) != 0 || !alike(h, api.Grace{Done: g.Asked, Asked: g.Asked, Needs: needs(p.cpus)}) {
			t.Fatalf("%v, behind %v: %v", g, row, h)
		}
	}
}

// P12.6: any ticks of up to eight CPUs, sections being as deep as they may: no period is over ahead of a section that was open when somebody asked for it.
func TestSections(t *testing.T) {
	var c chance
	ends := 0
	for range 300 {
		cpus := 1 + c.below(8)
		r, g := mustNew(t, cpus)
		open := make([][]int, cpus)    // of each CPU the sections that it is in, by numbers
		met := 0                       // how many sections were entered
		waits := map[int]map[int]int{} // by periods that were asked for, the sections that were open then
		for range 200 {
			tick := api.Tick{Kind: 1 + c.below(2)*3, Cpu: c.below(cpus)}
			switch c.below(8) {
			case 0:
				tick.Kind = api.TiAsk
			case 1, 2, 3:
				tick.Kind = api.TiLeave
			}
			s, h, numbers, e := grace.Play(r, g, tick)
			if e != api.OK {
				continue
			}
			in := &open[tick.Cpu]
			switch tick.Kind {
			case api.TiEnter:
				met++
				*in = append(*in, met)
			case api.TiLeave:
				*in = (*in)[:len(*in)-1]
			case api.TiAsk:
				if waits[numbers[0]] == nil {
					waits[numbers[0]] = map[int]int{}
				}
				for _, l := range open {
					for _, section := range l {
						waits[numbers[0]][section]++
					}
				}
			}
			if h.Done > g.Done {
				ends++
				since, asked := waits[h.Done]
				if !asked || grace.Over(g, h.Done) || !grace.Over(h, h.Done) {
					t.Fatalf("%v, behind %v: %v", g, tick, h)
				}
				for _, l := range open {
					for _, section := range l {
						if since[section] > 0 {
							t.Fatalf("%v, behind %v: %v: the section %d is open yet", g, tick, h, section)
						}
					}
				}
			}
			r, g = s, h
		}
	}
	if ends < 300 {
		t.Errorf("%d periods are over", ends)
	}
}
