package script_test

import (
	"math"
	"slices"
	"testing"

	"afterglow/api"
	"afterglow/script"
)

const wholeWord = math.MaxUint64

// chance follows from a short rule, and is the same each time.
type chance uint64

func (c *chance) word() uint64 {
	*c = *c*6364136223846793005 + 1442695040888963407
	high := uint64(*c) >> 32
	*c = *c*6364136223846793005 + 1442695040888963407
	return high<<32 | uint64(*c)>>32
}

func (c *chance) below(n int) int {
	return int(c.word() >> 1 % uint64(n))
}

// someCall has small numbers, and great ones, also such as begin records.
func (c *chance) someCall() api.Call {
	call := api.Call{Kind: c.word() >> (c.below(8) * 8)}
	for i := range call.Args {
		call.Args[i] = c.word() >> (c.below(8) * 8)
	}
	return call
}

// somePicks are some, often many of the same CPU.
func (c *chance) somePicks(cpus, most int) []int {
	var l []int
	for want := c.below(most + 1); len(l) < want; {
		cpu, many := c.below(cpus), 1
		if c.below(3) == 0 {
			many += c.below(600)
		}
		l = append(l, slices.Repeat([]int{cpu}, min(many, want-len(l)))...)
	}
	return l
}

// someScript may be.
func (c *chance) someScript() api.Script {
	s := api.Script{Cpus: 1 + c.below(api.MaxCpus), Pages: 1 + c.below(api.MaxPages)}
	s.Lists = make([][]api.Call, s.Cpus)
	for range c.below(api.MaxCalls + 1) {
		cpu := c.below(s.Cpus)
		s.Lists[cpu] = append(s.Lists[cpu], c.someCall())
	}
	s.Picks = c.somePicks(s.Cpus, api.MaxPicks)
	return s
}

// someWords are any words, most of them such as begin records, or small.
func (c *chance) someWords(most int) []uint64 {
	l := make([]uint64, c.below(most+1))
	for i := range l {
		switch c.below(4) {
		case 0:
			l[i] = c.word()
		case 1:
			l[i] = uint64(c.below(8))
		case 2:
			l[i] = c.word()&^3 | 1
		case 3:
			l[i] = c.word()&^3 | 2
		}
	}
	return l
}

// numbered is a call that is told apart by n.
func numbered(n int) api.Call {
	w := uint64(n)
	return api.Call{Kind: w, Args: [4]uint64{w + 1000, w + 2000, w + 3000, w + 4000}}
}

// numberedCalls are so many, from a number on.
func numberedCalls(from, many int) []api.Call {
	l := make([]api.Call, many)
	for i := range l {
		l[i] = numbered(from + i)
	}
	return l
}

// plain is a script of so many CPUs without calls and picks.
func plain(cpus, pages int) api.Script {
	return api.Script{Cpus: cpus, Pages: pages, Lists: make([][]api.Call, cpus)}
}

// full is a script that has as much of all as there may be.
func full() api.Script {
	s := plain(api.MaxCpus, api.MaxPages)
	for cpu := range s.Lists {
		s.Lists[cpu] = numberedCalls(100*cpu, api.MaxCalls/api.MaxCpus)
	}
	for i := range api.MaxPicks {
		s.Picks = append(s.Picks, i*i/3%api.MaxCpus)
	}
	return s
}

// noScripts are some that may not be, each for one cause alone.
func noScripts() map[string]api.Script {
	l := map[string]api.Script{
		"none":               {},
		"a page, but no CPU": {Pages: 1},
		"no lists":           {Cpus: 1, Pages: 1},
		"empty lists":        {Cpus: 1, Pages: 1, Lists: [][]api.Call{}},
		"a list too few":     {Cpus: 3, Pages: 1, Lists: make([][]api.Call, 2)},
		"a list too many":    {Cpus: 3, Pages: 1, Lists: make([][]api.Call, 4)},
		"no CPU, a list":     {Cpus: 0, Pages: 1, Lists: make([][]api.Call, 1)},
		"nine CPUs":          plain(api.MaxCpus+1, 1),
		"CPUs below 0":       {Cpus: -1, Pages: 1},
		"the least CPUs":     {Cpus: math.MinInt, Pages: 1, Lists: make([][]api.Call, 1)},
		"the most CPUs":      {Cpus: math.MaxInt, Pages: 1, Lists: make([][]api.Call, 1)},
		"CPUs past 2^32":     {Cpus: 1<<32 + 1, Pages: 1, Lists: make([][]api.Call, 1)},
		"no pages":           plain(1, 0),
		"pages below 0":      plain(2, -1),
		"65 pages":           plain(1, api.MaxPages+1),
		"the least pages":    plain(1, math.MinInt),
		"the most pages":     plain(8, math.MaxInt),
		"pages past 2^32":    plain(8, 1<<32+1),
	}
	alone := plain(1, 1)
	alone.Lists[0] = numberedCalls(0, api.MaxCalls+1)
	l["65 calls of one CPU"] = alone
	for _, cpu := range []int{0, 3, 7} {
		one := full()
		one.Lists[cpu] = append(one.Lists[cpu], numbered(9))
		l["65 calls, one more of the CPU "+string(rune('0'+cpu))] = one
	}
	long := full()
	long.Picks = append(long.Picks, 0)
	l["4097 picks"] = long
	for name, pick := range map[string]int{"-1": -1, "as many as CPUs": 3, "8": 8, "the least": math.MinInt, "the most": math.MaxInt, "2^32": 1 << 32} {
		for at := range 3 {
			s := plain(3, 5)
			s.Picks = []int{0, 2, 1}
			s.Picks[at] = pick
			l["a pick that is "+name+", at "+string(rune('0'+at))] = s
		}
	}
	return l
}

// double is s in memory of its own.
func double(s api.Script) api.Script {
	d := api.Script{Cpus: s.Cpus, Pages: s.Pages, Lists: make([][]api.Call, len(s.Lists)), Picks: append([]int{}, s.Picks...)}
	for cpu, l := range s.Lists {
		d.Lists[cpu] = append([]api.Call{}, l...)
	}
	return d
}

// alike is told here anew, so that it hangs on nothing that is to be tested.
func alike(a, b api.Script) bool {
	if a.Cpus != b.Cpus || a.Pages != b.Pages || len(a.Lists) != len(b.Lists) || len(a.Picks) != len(b.Picks) {
		return false
	}
	for cpu := range a.Lists {
		if len(a.Lists[cpu]) != len(b.Lists[cpu]) {
			return false
		}
		for i := range a.Lists[cpu] {
			if a.Lists[cpu][i] != b.Lists[cpu][i] {
				return false
			}
		}
	}
	for i := range a.Picks {
		if a.Picks[i] != b.Picks[i] {
			return false
		}
	}
	return true
}

func mustBe(t *testing.T, what string, got, want api.Script) {
	t.Helper()
	if !alike(got, want) {
		t.Errorf("%s: %v, not %v", what, got, want)
	}
	if e := script.Check(got); e != api.OK {
		t.Errorf("%s may not be: %d", what, e)
	}
}

// roomy is s in lists with room behind their ends, and something there.
func roomy(s api.Script) api.Script {
	d := double(s)
	for cpu, l := range d.Lists {
		d.Lists[cpu] = append(l, numbered(77), numbered(78))[:len(l)]
	}
	d.Lists = append(d.Lists, numberedCalls(5, 2), nil)[:len(d.Lists)]
	d.Picks = append(d.Picks, 0, 1, 99)[:len(d.Picks)]
	return d
}

// whole is s with the room behind its lists, in memory of its own.
func whole(s api.Script) api.Script {
	s.Lists = slices.Clone(s.Lists[:cap(s.Lists)])
	for i, l := range s.Lists {
		s.Lists[i] = l[:cap(l)]
	}
	s.Picks = s.Picks[:cap(s.Picks)]
	return double(s)
}

// scrub writes over all of s, the room behind its lists, too.
func scrub(s api.Script) {
	for i, l := range s.Lists[:cap(s.Lists)] {
		l = l[:cap(l)]
		for j := range l {
			l[j] = numbered(-1 - i - j)
		}
	}
	for i := range s.Lists[:cap(s.Lists)] {
		s.Lists[:cap(s.Lists)][i] = nil
	}
	scrubRow(s.Picks, -7)
}

// scrubRow writes over all of l, the room behind it, too.
func scrubRow[T any](l []T, by T) {
	l = l[:cap(l)]
	for i := range l {
		l[i] = by
	}
}

// wordsOf are the words of a script that may be, reckoned by sums.
func wordsOf(s api.Script) []uint64 {
	l := []uint64{uint64(s.Cpus-1) + 256*uint64(s.Pages-1)}
	for cpu, list := range s.Lists {
		for _, c := range list {
			l = append(l, 1+256*uint64(cpu), c.Kind, c.Args[0], c.Args[1], c.Args[2], c.Args[3])
		}
	}
	for _, run := range runsOf(s.Picks) {
		l = append(l, 2+256*uint64(run[0])+65536*uint64(run[1]-1))
	}
	return l
}

// runsOf are the runs of picks, told pick by pick.
func runsOf(picks []int) [][2]int {
	var l [][2]int
	for _, p := range picks {
		if n := len(l); n > 0 && l[n-1][0] == p && l[n-1][1] < 256 {
			l[n-1][1]++
		} else {
			l = append(l, [2]int{p, 1})
		}
	}
	return l
}

// says is the script that words say, reckoned by dividing.
func says(words []uint64) api.Script {
	if len(words) == 0 {
		return plain(1, 1)
	}
	s := plain(int(words[0]%8)+1, int(words[0]/256%64)+1)
	all := 0
	for at := 1; at < len(words); at++ {
		w := words[at]
		cpu := int(w/256%8) % s.Cpus
		switch {
		case w%4 == 1 && at+5 < len(words):
			if all < 64 {
				c := api.Call{Kind: words[at+1], Args: [4]uint64{words[at+2], words[at+3], words[at+4], words[at+5]}}
				s.Lists[cpu] = append(s.Lists[cpu], c)
				all++
			}
			at += 5
		case w%4 == 2:
			for i := uint64(0); i <= w/65536%256 && len(s.Picks) < 4096; i++ {
				s.Picks = append(s.Picks, cpu)
			}
		}
	}
	return s
}
