package script_test

import (
	"math"
	"testing"

	"afterglow/api"
	"afterglow/script"
)

// P3.1: all numbers of CPUs and pages around those that may be.
func TestCheckWorld(t *testing.T) {
	for cpus := -2; cpus <= api.MaxCpus+2; cpus++ {
		for pages := -2; pages <= api.MaxPages+2; pages++ {
			want := api.ErrScript
			if cpus >= 1 && cpus <= 8 && pages >= 1 && pages <= 64 {
				want = api.OK
			}
			s := plain(max(cpus, 0), pages)
			s.Cpus = cpus
			if e := script.Check(s); e != want {
				t.Errorf("Check of %d CPUs, %d pages: %d, not %d", cpus, pages, e, want)
			}
		}
	}
}

// P3.1: there is one list for each CPU.
func TestCheckLists(t *testing.T) {
	for cpus := 1; cpus <= api.MaxCpus; cpus++ {
		for lists := range api.MaxCpus + 3 {
			want := api.ErrScript
			if lists == cpus {
				want = api.OK
			}
			s := api.Script{Cpus: cpus, Pages: 1, Lists: make([][]api.Call, lists)}
			if e := script.Check(s); e != want {
				t.Errorf("Check of %d CPUs, %d lists: %d, not %d", cpus, lists, e, want)
			}
		}
	}
}

// P3.1: the calls of all CPUs count together, however they lie.
func TestCheckCalls(t *testing.T) {
	for first := range api.MaxCalls + 2 {
		for second := range api.MaxCalls + 2 {
			want := api.OK
			if first+second > 64 {
				want = api.ErrScript
			}
			s := plain(3, 1)
			s.Lists[0], s.Lists[2] = numberedCalls(0, first), numberedCalls(0, second)
			if e := script.Check(s); e != want {
				t.Errorf("Check of %d and %d calls: %d, not %d", first, second, e, want)
			}
		}
	}
}

// P3.1: a call may be whatever it is.
func TestCheckAnyCall(t *testing.T) {
	s := plain(1, 1)
	s.Lists[0] = []api.Call{{}, {Kind: wholeWord}, {Kind: 15}, {Kind: 1, Args: [4]uint64{wholeWord, 1 << 63, 0, wholeWord - 1}}}
	if e := script.Check(s); e != api.OK {
		t.Errorf("Check of any calls: %d", e)
	}
}

// P3.1: each pick is a CPU that is there, at each place; there are at most as many as the limit says.
func TestCheckPicks(t *testing.T) {
	for cpus := 1; cpus <= api.MaxCpus; cpus++ {
		for pick := -3; pick <= api.MaxCpus+3; pick++ {
			want := api.ErrScript
			if pick >= 0 && pick < cpus {
				want = api.OK
			}
			for _, at := range []int{0, 1, 2047, 4095} {
				s := plain(cpus, 1)
				s.Picks = make([]int, 4096)
				s.Picks[at] = pick
				if e := script.Check(s); e != want {
					t.Errorf("Check of %d CPUs, the pick %d at %d: %d, not %d", cpus, pick, at, e, want)
				}
			}
		}
	}
	for _, many := range []int{0, 1, 4095, 4096, 4097, 5000} {
		want := api.OK
		if many > 4096 {
			want = api.ErrScript
		}
		s := plain(1, 1)
		s.Picks = make([]int, many)
		if e := script.Check(s); e != want {
			t.Errorf("Check of %d picks: %d, not %d", many, e, want)
		}
	}
}

// P3.1: what may not be, each for one cause; what may be, with all of it, or with nothing.
func TestCheck(t *testing.T) {
	for name, s := range noScripts() {
		if e := script.Check(s); e != api.ErrScript {
			t.Errorf("Check, %s: %d", name, e)
		}
	}
	empty := api.Script{Cpus: 2, Pages: 1, Lists: [][]api.Call{{}, nil}, Picks: []int{}}
	for _, s := range []api.Script{plain(1, 1), plain(8, 64), full(), roomy(full()), empty} {
		if e := script.Check(s); e != api.OK {
			t.Errorf("Check(%v): %d", s, e)
		}
	}
	c := chance(31)
	for range 200 {
		s := c.someScript()
		if e := script.Check(s); e != api.OK {
			t.Fatalf("Check(%v): %d", s, e)
		}
	}
}

// apartScripts are some of which no two are the same: all parts are told apart, and the places of all.
func apartScripts() []api.Script {
	a, b := numbered(1), numbered(2)
	l := []api.Script{
		{}, {Cpus: 1}, {Pages: 1}, {Cpus: 1, Pages: 1}, {Cpus: 2, Pages: 1}, {Cpus: 1, Pages: 2},
		{Cpus: math.MaxInt, Pages: math.MinInt}, {Cpus: math.MinInt, Pages: math.MaxInt},
		plain(1, 1), plain(2, 1), plain(1, 2), plain(2, 2), plain(8, 64),
		{Cpus: 2, Pages: 2, Lists: [][]api.Call{{a}, {}}},
		{Cpus: 2, Pages: 2, Lists: [][]api.Call{{}, {a}}},
		{Cpus: 2, Pages: 2, Lists: [][]api.Call{{b}, {}}},
		{Cpus: 2, Pages: 2, Lists: [][]api.Call{{a, a}, {}}},
		{Cpus: 2, Pages: 2, Lists: [][]api.Call{{a}, {a}}},
		{Cpus: 2, Pages: 2, Lists: [][]api.Call{{a, b}, {}}},
		{Cpus: 2, Pages: 2, Lists: [][]api.Call{{b, a}, {}}},
		{Cpus: 2, Pages: 2, Lists: [][]api.Call{{a}, {b}}},
		{Cpus: 2, Pages: 2, Lists: [][]api.Call{{b}, {a}}},
		{Cpus: 2, Pages: 2, Lists: [][]api.Call{{a}, {b}, {}}},
		{Cpus: 2, Pages: 2, Lists: [][]api.Call{{a}}},
		{Cpus: 2, Pages: 2, Lists: [][]api.Call{{}, {}, {a}}},
	}
	for _, picks := range [][]int{{0}, {1}, {0, 0}, {0, 1}, {1, 0}, {1, 1}, {0, 0, 0}, {0, 1, 0}, {-1}, {2}, {1 << 32}, {math.MinInt}} {
		s := plain(2, 2)
		s.Picks = picks
		l = append(l, s)
	}
	for part := range 5 {
		for _, w := range []uint64{0, 1 << 32, wholeWord} {
			c := api.Call{Kind: 50, Args: [4]uint64{51, 52, 53, 54}}
			if part == 0 {
				c.Kind = w
			} else {
				c.Args[part-1] = w
			}
			l = append(l, api.Script{Cpus: 1, Pages: 1, Lists: [][]api.Call{{a, c}}})
		}
	}
	long := full()
	long.Picks[4095] = 7 - long.Picks[4095]
	late := full()
	late.Lists[7][7].Args[3]++
	return append(l, full(), long, late)
}

// P3.1: Same asks for each part, of what may not be a script, too.
func TestSame(t *testing.T) {
	l := apartScripts()
	for i, a := range l {
		for j, b := range l {
			if is := script.Same(a, roomy(b)); is != (i == j) {
				t.Errorf("Same(%v, %v): %t (%d, %d)", a, b, is, i, j)
			}
		}
	}
	for _, two := range [][2]api.Script{
		{{}, {Lists: [][]api.Call{}, Picks: []int{}}},
		{plain(2, 1), {Cpus: 2, Pages: 1, Lists: [][]api.Call{{}, {}}, Picks: []int{}}},
	} {
		if !script.Same(two[0], two[1]) || !script.Same(two[1], two[0]) {
			t.Errorf("nil and empty are not the same: %v", two)
		}
	}
}

// P3.1 to P3.3: what is handed in stays as it is, the room behind each list, too.
func TestUnchanged(t *testing.T) {
	odd := full()
	odd.Picks[5] = 77
	for _, was := range []api.Script{full(), odd, plain(2, 3)} {
		s := roomy(was)
		before := whole(s)
		script.Check(s)
		script.Same(s, s)
		script.Of(s)
		script.Runs(s.Picks)
		if !alike(whole(s), before) {
			t.Errorf("%v is changed: %v", before, whole(s))
		}
	}
}
