package sched_test

import (
	"math"
	"slices"
	"testing"

	"afterglow/api"
	"afterglow/sched"
)

// mend is what wishes come to, where nothing may be wrong.
func mend(t *testing.T, cpus, k int, wishes []int) []int {
	t.Helper()
	l, e := sched.Mend(cpus, k, wishes...)
	if e != api.OK {
		t.Fatalf("Mend(%d, %d) of %d wishes: %d", cpus, k, len(wishes), e)
	}
	return l
}

// P4.4: picks that are written out.
func TestMend(t *testing.T) {
	for _, c := range []struct {
		cpus, k int
		wishes  []int
		want    []int
	}{
		{1, 1, nil, nil},
		{8, 8, []int{}, nil},
		{1, 1, []int{0, 7, -3}, []int{0, 0, 0}},
		{2, 2, []int{0, 0, 0, 1}, []int{0, 1, 0, 1}},
		{3, 3, []int{2, 2, 2}, []int{2, 0, 1}},
		{2, 3, []int{0, 0, 0, 0, 0, 0}, []int{0, 0, 1, 0, 0, 1}},
		{2, 4, []int{1, 1, 1, 1, 1}, []int{1, 1, 1, 0, 1}},
		// A CPU has to be picked ahead of its k, if others have to be picked there, too.
		{3, 4, []int{2, 2, 2, 2, 2, 2}, []int{2, 2, 0, 1, 2, 2}},
		{3, 5, []int{0, 0, 0, 0, 0}, []int{0, 0, 0, 1, 2}},
		// The one that waits longest, not the one of the least number.
		{3, 4, []int{0, 2, 2, 2}, []int{0, 2, 2, 1}},
		{3, 3, []int{2, 1, 1, 1}, []int{2, 1, 0, 2}},
		// What is wished is kept, where it can be.
		{3, 3, []int{1, 0, 2, 1, 0, 2}, []int{1, 0, 2, 1, 0, 2}},
		{3, 4, []int{1, 0, 0, 2, 1}, []int{1, 0, 0, 2, 1}},
		// Any number says a CPU: below 0, too.
		{3, 9, []int{-1, -2, -3, -4, 3, 4, 5}, []int{2, 1, 0, 2, 0, 1, 2}},
		{3, 9, []int{math.MinInt, math.MaxInt}, []int{1, 1}},
		{8, 9, []int{math.MinInt, math.MaxInt, -1, -8}, []int{0, 7, 7, 1}},
		{7, 7, []int{-7, -6, -1, 14}, []int{0, 1, 6, 2}},
		{8, 8, []int{5, 5, 5, 5, 5, 5, 5, 5, 5}, []int{5, 0, 1, 2, 3, 4, 6, 7, 5}},
	} {
		if l, e := sched.Mend(c.cpus, c.k, c.wishes...); e != api.OK || !slices.Equal(l, c.want) {
			t.Errorf("Mend(%d, %d; %v): %v, %d, not %v", c.cpus, c.k, c.wishes, l, e, c.want)
		}
	}
}

// P4.4: where k is great, each wish can be.
func TestMendGreat(t *testing.T) {
	wishes := make([]int, 10000)
	for _, k := range []int{10008, 1 << 32, math.MaxInt - 1, math.MaxInt} {
		if l := mend(t, 8, k, wishes); !slices.Equal(l, wishes) {
			t.Errorf("k is %d: not as wished", k)
		}
	}
	if l := mend(t, 2, 5000, wishes); !slices.Equal(sched.Split(2, l)[1], []int{4999, 9999}) {
		t.Errorf("k is 5000: the places of the CPU 1 are %v", sched.Split(2, l)[1])
	}
}

// P4.4: too few CPUs, or too many, go ahead of a k that is too small.
func TestMendWrong(t *testing.T) {
	for _, cpus := range []int{math.MinInt, -1, 0, 1, 2, 3, 7, 8, 9, 1<<32 + 1, math.MaxInt} {
		for _, k := range []int{math.MinInt, -1, 0, 1, 2, 3, 6, 7, 8, 9, math.MaxInt} {
			want := api.OK
			switch {
			case cpus < 1 || cpus > 8:
				want = api.ErrSched
			case k < cpus:
				want = api.ErrArg
			}
			for _, wishes := range [][]int{nil, {0}, {-1, 9, 3}} {
				l, e := sched.Mend(cpus, k, wishes...)
				if e != want || e != api.OK && len(l) != 0 || e == api.OK && len(l) != len(wishes) {
					t.Errorf("Mend(%d, %d; %v): %v, %d, not %d", cpus, k, wishes, l, e, want)
				}
			}
		}
	}
}

// P4.4: of all short rows of wishes, and of long ones.
func TestMendMany(t *testing.T) {
	ask := func(cpus, k int, wishes []int) {
		if l, want := mend(t, cpus, k, wishes), mendOf(cpus, k, wishes); !slices.Equal(l, want) {
			t.Fatalf("Mend(%d, %d; %v): %v, not %v", cpus, k, wishes, l, want)
		}
	}
	for cpus := 1; cpus <= 4; cpus++ {
		for wishes := range rows(-1, cpus-1, 5) {
			for k := cpus; k <= cpus+3; k++ {
				ask(cpus, k, wishes)
			}
		}
	}
	c := chance(44)
	for range 400 {
		cpus := 1 + c.below(8)
		ask(cpus, cpus+c.below(12), c.someWishes(80))
	}
}
