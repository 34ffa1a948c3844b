package sched_test

import (
	"slices"
	"testing"

	"afterglow/api"
	"afterglow/sched"
)

// P4.6: what is mended are picks, as many as wishes, and k-fair; and kept, when mended again.
func TestMendedIsFair(t *testing.T) {
	c := chance(61)
	for range 2000 {
		cpus := 1 + c.below(8)
		k := cpus + c.below(12)
		wishes := c.someWishes(120)
		l := mend(t, cpus, k, wishes)
		if e := sched.Check(cpus, l); e != api.OK || len(l) != len(wishes) {
			t.Fatalf("Mend(%d, %d; %v): %v are no picks: %d", cpus, k, wishes, l, e)
		}
		if !sched.Fair(cpus, l, k) || sched.Least(cpus, l) > k {
			t.Fatalf("Mend(%d, %d; %v): %v are not fair", cpus, k, wishes, l)
		}
		for more := range 3 {
			if again := mend(t, cpus, k+more, l); !slices.Equal(again, l) {
				t.Fatalf("Mend(%d, %d; %v): %v, not kept", cpus, k+more, l, again)
			}
		}
	}
}

// P4.6: a beginning of wishes comes to a beginning of the picks.
func TestMendedAhead(t *testing.T) {
	c := chance(62)
	for range 300 {
		cpus := 1 + c.below(8)
		k := cpus + c.below(6)
		wishes := c.someWishes(60)
		l := mend(t, cpus, k, wishes)
		some := c.below(len(wishes) + 1)
		if ahead := mend(t, cpus, k, wishes[:some]); !slices.Equal(ahead, l[:some]) {
			t.Fatalf("Mend(%d, %d; %v): %v, behind %v", cpus, k, wishes, l, ahead)
		}
	}
}

// P4.6: of so many picks that are k-fair there are at least so many rounds as k goes into them.
func TestFairHasRounds(t *testing.T) {
	ask := func(cpus int, picks []int) {
		for k := 1; k <= len(picks); k++ {
			if sched.Fair(cpus, picks, k) && sched.Rounds(cpus, picks) < len(picks)/k {
				t.Fatalf("%v of %d CPUs are %d-fair, and %d rounds", picks, cpus, k, sched.Rounds(cpus, picks))
			}
		}
	}
	for cpus := 1; cpus <= 3; cpus++ {
		for picks := range rows(0, cpus-1, 7) {
			ask(cpus, picks)
		}
	}
	c := chance(63)
	for range 300 {
		cpus := 1 + c.below(8)
		ask(cpus, mend(t, cpus, cpus+c.below(5), c.someWishes(120)))
	}
}

// P4.6: a part of k-fair picks is k-fair.
func TestPartIsFair(t *testing.T) {
	c := chance(64)
	for range 200 {
		cpus := 1 + c.below(8)
		l := mend(t, cpus, cpus+c.below(9), c.someWishes(50))
		k := sched.Least(cpus, l)
		for from := range l {
			for to := from; to <= len(l); to++ {
				if !sched.Fair(cpus, l[from:to], k) || sched.Least(cpus, l[from:to]) > k {
					t.Fatalf("%v of %d CPUs are %d-fair, %v are not", l, cpus, k, l[from:to])
				}
			}
		}
	}
}

// P4.6: the places are of all picks, each once: the last one of a CPU says its wait.
func TestPlacesAndWaits(t *testing.T) {
	c := chance(65)
	for range 500 {
		cpus := 1 + c.below(8)
		picks := c.somePicks(cpus, 100)
		joined := make([]int, len(picks))
		waits := sched.Waits(cpus, picks)
		for cpu, places := range sched.Split(cpus, picks) {
			last := -1
			for _, at := range places {
				if at <= last {
					t.Fatalf("Split(%d, %v): %v are not rising", cpus, picks, places)
				}
				last = at
				joined[at] += cpu + 1
			}
			if waits[cpu] != len(picks)-1-last {
				t.Fatalf("Waits(%d, %v): %v; the last place of %d is %d", cpus, picks, waits, cpu, last)
			}
		}
		for at, pick := range picks {
			if joined[at] != pick+1 {
				t.Fatalf("Split(%d, %v): the place %d", cpus, picks, at)
			}
		}
	}
}
