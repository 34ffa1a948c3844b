package script_test

import (
	"math"
	"slices"
	"testing"

	"afterglow/api"
	"afterglow/script"
)

// P3.2: words that are written out.
func TestOf(t *testing.T) {
	call := api.Call{Kind: 9, Args: [4]uint64{5, 6, 7, 8}}
	great := api.Call{Kind: wholeWord, Args: [4]uint64{1, 2, 1 << 63, wholeWord}}
	for _, c := range []struct {
		s    api.Script
		want []uint64
	}{
		{plain(1, 1), []uint64{0}},
		{plain(8, 2), []uint64{263}},
		{plain(1, 64), []uint64{16128}},
		{plain(8, 64), []uint64{16135}},
		{api.Script{Cpus: 2, Pages: 1, Lists: [][]api.Call{nil, {call}}}, []uint64{1, 257, 9, 5, 6, 7, 8}},
		{api.Script{Cpus: 2, Pages: 1, Lists: [][]api.Call{{call}, {}}}, []uint64{1, 1, 9, 5, 6, 7, 8}},
		{api.Script{Cpus: 2, Pages: 1, Lists: [][]api.Call{{{}, great}, {call}}}, []uint64{1,
			1, 0, 0, 0, 0, 0, 1, wholeWord, 1, 2, 1 << 63, wholeWord, 257, 9, 5, 6, 7, 8}},
		{api.Script{Cpus: 2, Pages: 1, Lists: make([][]api.Call, 2), Picks: []int{1, 1, 1}}, []uint64{1, 131330}},
		{api.Script{Cpus: 2, Pages: 1, Lists: make([][]api.Call, 2), Picks: []int{0, 0, 1, 0}}, []uint64{1, 65538, 258, 2}},
		{api.Script{Cpus: 8, Pages: 1, Lists: make([][]api.Call, 8), Picks: []int{7}}, []uint64{7, 1794}},
		{api.Script{Cpus: 2, Pages: 3, Lists: [][]api.Call{{call}, {}}, Picks: []int{1, 0}}, []uint64{513, 1, 9, 5, 6, 7, 8, 258, 2}},
	} {
		if l, e := script.Of(c.s); e != api.OK || !slices.Equal(l, c.want) {
			t.Errorf("Of(%v): %v, %d, not %v", c.s, l, e, c.want)
		}
	}
}

// P3.2: a run is cut where it has 256 picks.
func TestOfLongRuns(t *testing.T) {
	const most, one = 2 + 256 + 255<<16, 2 + 256
	for _, c := range []struct {
		many int
		want []uint64
	}{
		{255, []uint64{2 + 256 + 254<<16}},
		{256, []uint64{most}},
		{257, []uint64{most, one}},
		{512, []uint64{most, most}},
		{513, []uint64{most, most, one}},
		{4096, slices.Repeat([]uint64{most}, 16)},
	} {
		s := plain(2, 1)
		s.Picks = slices.Repeat([]int{1}, c.many)
		if l, e := script.Of(s); e != api.OK || !slices.Equal(l, append([]uint64{1}, c.want...)) {
			t.Errorf("Of of %d picks: %v, %d, not 1 and %v", c.many, l, e, c.want)
		}
	}
}

// P3.2: the words of many scripts, reckoned by sums.
func TestOfMany(t *testing.T) {
	c := chance(32)
	l := []api.Script{full(), roomy(full())}
	for range 300 {
		l = append(l, c.someScript())
	}
	for _, s := range l {
		want := wordsOf(s)
		if words, e := script.Of(s); e != api.OK || !slices.Equal(words, want) {
			t.Fatalf("Of(%v): %v, %d, not %v", s, words, e, want)
		}
	}
}

// P3.2: what may not be has no words.
func TestOfWrong(t *testing.T) {
	for name, s := range noScripts() {
		if l, e := script.Of(s); e != api.ErrScript || len(l) != 0 {
			t.Errorf("Of, %s: %v, %d", name, l, e)
		}
	}
}

// P3.2: the words are new each time.
func TestOfApart(t *testing.T) {
	s := full()
	first, _ := script.Of(s)
	second, _ := script.Of(s)
	want := wordsOf(s)
	scrubRow(first, 99)
	scrub(s)
	if !slices.Equal(second, want) {
		t.Error("the words are shared")
	}
}

// P3.4: runs that are written out, of whatever numbers.
func TestRuns(t *testing.T) {
	for _, c := range []struct {
		picks []int
		want  [][2]int
	}{
		{nil, nil},
		{[]int{}, nil},
		{[]int{5}, [][2]int{{5, 1}}},
		{[]int{0, 0, 1, 0}, [][2]int{{0, 2}, {1, 1}, {0, 1}}},
		{[]int{1, 2, 3}, [][2]int{{1, 1}, {2, 1}, {3, 1}}},
		{[]int{2, 2, 2}, [][2]int{{2, 3}}},
		{[]int{-1, -1, 0, 300, 300, 300}, [][2]int{{-1, 2}, {0, 1}, {300, 3}}},
		{[]int{0, 8, 256, 1 << 32, 0}, [][2]int{{0, 1}, {8, 1}, {256, 1}, {1 << 32, 1}, {0, 1}}},
		{[]int{math.MinInt, math.MinInt, math.MaxInt, math.MaxInt}, [][2]int{{math.MinInt, 2}, {math.MaxInt, 2}}},
	} {
		if l := script.Runs(c.picks); !slices.Equal(l, c.want) {
			t.Errorf("Runs(%v): %v, not %v", c.picks, l, c.want)
		}
	}
}

// P3.4: a run has at most 256, and what is behind it is the next one.
func TestRunsLong(t *testing.T) {
	for _, p := range []int{0, 7, -3, math.MaxInt} {
		for many := range 1100 {
			var want [][2]int
			for left := many; left > 0; left -= 256 {
				want = append(want, [2]int{p, min(left, 256)})
			}
			if l := script.Runs(slices.Repeat([]int{p}, many)); !slices.Equal(l, want) {
				t.Fatalf("Runs of %d times %d: %v, not %v", many, p, l, want)
			}
		}
	}
	l := slices.Concat(slices.Repeat([]int{3}, 300), slices.Repeat([]int{4}, 256), []int{3})
	if l := script.Runs(l); !slices.Equal(l, [][2]int{{3, 256}, {3, 44}, {4, 256}, {3, 1}}) {
		t.Errorf("Runs: %v", l)
	}
	// More than a script may have are picks, too.
	if l := script.Runs(make([]int, 256*100+1)); len(l) != 101 || l[100] != [2]int{0, 1} {
		t.Errorf("Runs of many: %v", l)
	}
}

// P3.4: the runs of many picks, and of other numbers.
func TestRunsMany(t *testing.T) {
	c := chance(34)
	for range 300 {
		picks := c.somePicks(1+c.below(9), 5000)
		for i := range picks {
			picks[i] -= 2
		}
		if l := script.Runs(picks); !slices.Equal(l, runsOf(picks)) {
			t.Fatalf("Runs(%v): %v, not %v", picks, l, runsOf(picks))
		}
	}
}

// P3.4: the runs are new each time.
func TestRunsApart(t *testing.T) {
	picks := []int{1, 1, 2, 9, 9}
	l := picks[:3]
	first, second := script.Runs(l), script.Runs(l)
	scrubRow(first, [2]int{7, 7})
	if !slices.Equal(picks, []int{1, 1, 2, 9, 9}) {
		t.Errorf("the picks are changed: %v", picks)
	}
	scrubRow(picks, 8)
	if !slices.Equal(second, [][2]int{{1, 2}, {2, 1}}) {
		t.Errorf("the runs are shared: %v", second)
	}
}
