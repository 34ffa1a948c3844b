package sched_test

import (
	"math"
	"slices"
	"testing"

	"afterglow/sched"
)

// P4.2: waits that are written out.
func TestWaits(t *testing.T) {
	for _, c := range []struct {
		cpus  int
		picks []int
		want  []int
	}{
		{1, nil, []int{0}},
		{3, []int{}, []int{0, 0, 0}},
		{1, []int{0, 0, 0}, []int{0}},
		{2, []int{0}, []int{0, 1}},
		{2, []int{1}, []int{1, 0}},
		{3, []int{0, 1, 0}, []int{0, 1, 3}},
		{3, []int{2, 2, 2, 2}, []int{4, 4, 0}},
		{3, []int{2, 1, 0}, []int{0, 1, 2}},
		{8, []int{7, 0, 0, 3}, []int{1, 4, 4, 0, 4, 4, 4, 3}},
	} {
		if l := sched.Waits(c.cpus, c.picks); !slices.Equal(l, c.want) {
			t.Errorf("Waits(%d, %v): %v, not %v", c.cpus, c.picks, l, c.want)
		}
	}
	if l := sched.Waits(2, make([]int, 100000)); !slices.Equal(l, []int{0, 100000}) {
		t.Errorf("Waits of many: %v", l)
	}
}

// P4.2: the least k that are written out, and how fair that is, below and above, too.
func TestLeast(t *testing.T) {
	for _, c := range []struct {
		cpus  int
		picks []int
		want  int
	}{
		{1, nil, 1},
		{8, []int{}, 1},
		{1, []int{0, 0, 0}, 1},
		{2, []int{0}, 2},
		{3, []int{0}, 2},
		{2, []int{0, 1}, 2},
		{2, []int{0, 0}, 3},
		{2, []int{0, 1, 0, 1}, 2},
		{2, []int{0, 0, 1, 0}, 3},
		{2, []int{1, 0, 0, 1}, 3},
		{2, []int{1, 0, 0, 0}, 4},
		{3, []int{0, 1, 0}, 4},
		{3, []int{0, 1, 2, 0, 1, 2}, 3},
		{3, []int{0, 1, 2, 1, 0}, 4},
		{8, []int{0, 1, 2, 3, 4, 5, 6, 7}, 8},
		{8, []int{0, 1, 2, 3, 4, 5, 6, 7, 6}, 9},
		{8, []int{0, 0}, 3},
	} {
		if k := sched.Least(c.cpus, c.picks); k != c.want {
			t.Errorf("Least(%d, %v): %d, not %d", c.cpus, c.picks, k, c.want)
		}
		for _, k := range []int{math.MinInt, -1, 0, c.want - 1, c.want, c.want + 1, math.MaxInt} {
			if is := sched.Fair(c.cpus, c.picks, k); is != (k >= c.want) {
				t.Errorf("Fair(%d, %v, %d): %t", c.cpus, c.picks, k, is)
			}
		}
	}
	if k := sched.Least(2, make([]int, 100000)); k != 100001 {
		t.Errorf("Least of many: %d", k)
	}
}

// P4.2: of all short rows, and of long ones.
func TestWaitsAndFair(t *testing.T) {
	ask := func(cpus int, picks []int) {
		if l, want := sched.Waits(cpus, picks), waitsOf(cpus, picks); !slices.Equal(l, want) {
			t.Fatalf("Waits(%d, %v): %v, not %v", cpus, picks, l, want)
		}
		if k, want := sched.Least(cpus, picks), leastOf(cpus, picks); k != want {
			t.Fatalf("Least(%d, %v): %d, not %d", cpus, picks, k, want)
		}
		for k := -1; k <= len(picks)+2; k++ {
			if is, want := sched.Fair(cpus, picks, k), fairOf(cpus, picks, k); is != want {
				t.Fatalf("Fair(%d, %v, %d): %t", cpus, picks, k, is)
			}
		}
	}
	for cpus := 1; cpus <= 4; cpus++ {
		for picks := range rows(0, cpus-1, 6) {
			ask(cpus, picks)
		}
	}
	c := chance(42)
	for range 300 {
		cpus := 1 + c.below(8)
		ask(cpus, c.somePicks(cpus, 60))
	}
}
