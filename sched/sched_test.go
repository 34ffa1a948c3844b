package sched_test

import (
	"math"
	"slices"
	"testing"

	"afterglow/api"
	"afterglow/sched"
)

// P4.1: from one CPU to as many as the limit says, and picks from 0 to below that, at each place.
func TestCheck(t *testing.T) {
	for cpus := -3; cpus <= 12; cpus++ {
		want := api.ErrSched
		if cpus >= 1 && cpus <= 8 {
			want = api.OK
		}
		for _, picks := range [][]int{nil, {}, {0}, {0, 0, 0}, make([]int, 10000)} {
			if e := sched.Check(cpus, picks); e != want {
				t.Errorf("Check(%d) of %d picks: %d, not %d", cpus, len(picks), e, want)
			}
		}
	}
	for cpus := 1; cpus <= 8; cpus++ {
		for pick := -10; pick <= 20; pick++ {
			want := api.ErrSched
			if pick >= 0 && pick < cpus {
				want = api.OK
			}
			for at := range 6 {
				picks := make([]int, 6)
				picks[at] = pick
				if e := sched.Check(cpus, picks); e != want {
					t.Errorf("Check(%d, %v): %d, not %d", cpus, picks, e, want)
				}
			}
		}
	}
	for _, w := range wrongPicks() {
		if e := sched.Check(w.cpus, w.picks); e != api.ErrSched {
			t.Errorf("Check(%d) of %d picks: %d", w.cpus, len(w.picks), e)
		}
	}
}

// P4.2, P4.3, P4.5: what are no picks has no waits, no rounds and no places, and is not fair.
func TestNoPicks(t *testing.T) {
	for _, w := range wrongPicks() {
		if l := sched.Waits(w.cpus, w.picks); len(l) != 0 {
			t.Errorf("Waits(%d) of %d picks: %v", w.cpus, len(w.picks), l)
		}
		for _, k := range []int{math.MinInt, 0, 1, 5, 8, 9, 10000, math.MaxInt} {
			if sched.Fair(w.cpus, w.picks, k) {
				t.Errorf("Fair(%d, %d) of %d picks", w.cpus, k, len(w.picks))
			}
		}
		if k := sched.Least(w.cpus, w.picks); k != 0 {
			t.Errorf("Least(%d) of %d picks: %d", w.cpus, len(w.picks), k)
		}
		if n := sched.Rounds(w.cpus, w.picks); n != 0 {
			t.Errorf("Rounds(%d) of %d picks: %d", w.cpus, len(w.picks), n)
		}
		if l := sched.Split(w.cpus, w.picks); len(l) != 0 {
			t.Errorf("Split(%d) of %d picks: %v", w.cpus, len(w.picks), l)
		}
	}
}

// P4.3: rounds that are written out.
func TestRounds(t *testing.T) {
	for _, c := range []struct {
		cpus  int
		picks []int
		want  int
	}{
		{1, nil, 0},
		{1, []int{0}, 1},
		{1, []int{0, 0, 0}, 3},
		{2, []int{0}, 0},
		{2, []int{0, 0, 1, 1, 0}, 2},
		{2, []int{0, 0, 1, 1, 1}, 1},
		{2, []int{0, 1, 0, 1}, 2},
		{2, []int{0, 1, 1, 0}, 2},
		{2, []int{1, 1, 1, 1}, 0},
		{3, []int{0, 1, 0, 1, 0, 1}, 0},
		{3, []int{0, 1, 0, 1, 0, 1, 2}, 1},
		{3, []int{0, 1, 2, 2, 1}, 1},
		{3, []int{0, 1, 2, 2, 1, 0}, 2},
		{8, []int{0, 1, 2, 3, 4, 5, 6, 7}, 1},
		{8, []int{0, 1, 2, 3, 4, 5, 6}, 0},
		{7, []int{0, 1, 2, 3, 4, 5, 6}, 1},
		{8, []int{7, 6, 5, 4, 3, 2, 1, 0, 0, 1, 2, 3, 4, 5, 6, 6, 7, 0}, 2},
	} {
		if n := sched.Rounds(c.cpus, c.picks); n != c.want {
			t.Errorf("Rounds(%d, %v): %d, not %d", c.cpus, c.picks, n, c.want)
		}
	}
	if n := sched.Rounds(1, make([]int, 100000)); n != 100000 {
		t.Errorf("Rounds of many: %d", n)
	}
}

// P4.3, P4.5: of all short rows, and of long ones.
func TestRoundsAndPlaces(t *testing.T) {
	ask := func(cpus int, picks []int) {
		if n, want := sched.Rounds(cpus, picks), roundsOf(cpus, picks); n != want {
			t.Fatalf("Rounds(%d, %v): %d, not %d", cpus, picks, n, want)
		}
		if l, want := sched.Split(cpus, picks), splitOf(cpus, picks); !alike(l, want) {
			t.Fatalf("Split(%d, %v): %v, not %v", cpus, picks, l, want)
		}
	}
	for cpus := 1; cpus <= 4; cpus++ {
		for picks := range rows(0, cpus-1, 7) {
			ask(cpus, picks)
		}
	}
	c := chance(43)
	for range 500 {
		cpus := 1 + c.below(8)
		ask(cpus, c.somePicks(cpus, 200))
	}
}

// P4.5: places that are written out; of a CPU that is never picked there are none.
func TestSplit(t *testing.T) {
	for _, c := range []struct {
		cpus  int
		picks []int
		want  [][]int
	}{
		{1, nil, [][]int{{}}},
		{3, []int{}, [][]int{{}, {}, {}}},
		{2, []int{0, 0, 1}, [][]int{{0, 1}, {2}}},
		{3, []int{2, 0, 2, 2}, [][]int{{1}, {}, {0, 2, 3}}},
		{8, []int{7, 0}, [][]int{{1}, {}, {}, {}, {}, {}, {}, {0}}},
		{1, []int{0, 0, 0, 0}, [][]int{{0, 1, 2, 3}}},
	} {
		if l := sched.Split(c.cpus, c.picks); !alike(l, c.want) {
			t.Errorf("Split(%d, %v): %v, not %v", c.cpus, c.picks, l, c.want)
		}
	}
}

// P4.1 to P4.5: what is handed in stays as it is, the room behind it, too.
func TestUnchanged(t *testing.T) {
	for _, l := range [][]int{{}, {0, 1, 1, 2, 0, 2}, {2, 2, 2, 2, 2}, {-5, 9, math.MaxInt, math.MinInt, 1}} {
		given := roomy(l)
		was := slices.Clone(given[:cap(given)])
		sched.Check(3, given)
		sched.Waits(3, given)
		sched.Fair(3, given, 3)
		sched.Least(3, given)
		sched.Rounds(3, given)
		sched.Split(3, given)
		sched.Mend(3, 3, given...)
		if !slices.Equal(given[:cap(given)], was) {
			t.Errorf("%v is changed: %v", was, given[:cap(given)])
		}
	}
}

// P4.2, P4.4, P4.5: what is answered is new each time, and no two lists of it share.
func TestApart(t *testing.T) {
	l := []int{0, 1, 2, 0, 1, 2, 1}
	given := roomy(l)
	waits, again := sched.Waits(3, given), sched.Waits(3, given)
	scrub(waits)
	mended, kept := mend(t, 3, 3, given), mend(t, 3, 3, given)
	scrub(mended)
	places, others := sched.Split(3, given), sched.Split(3, given)
	scrub(places[1])
	if !slices.Equal(places[0], []int{0, 3}) || !slices.Equal(places[2], []int{2, 5}) {
		t.Errorf("places share: %v", places)
	}
	if !slices.Equal(given, l) {
		t.Errorf("answers share with what was handed in: %v", given)
	}
	scrub(given)
	if !slices.Equal(again, []int{3, 0, 1}) || !slices.Equal(kept, []int{0, 1, 2, 0, 1, 2, 0}) {
		t.Errorf("answers share: %v, %v", again, kept)
	}
	if !alike(others, [][]int{{0, 3}, {1, 4, 6}, {2, 5}}) {
		t.Errorf("answers share: %v", others)
	}
}
