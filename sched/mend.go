package sched

import (
	"slices"

	"afterglow/api"
)

// within says whether the waits, the longest one first, are at most k less 1, k less 2, and so on: then k picks are enough for all, the one picked first that waits longest.
func (w waits) within(cpus, k int) bool {
	l := w[:cpus]
	slices.Sort(l)
	for i := range cpus {
		if l[cpus-1-i] > k-1-i {
			return false
		}
	}
	return true
}

// wished is the CPU that a wish says, whatever number it is.
func wished(wish, cpus int) int {
	left := wish % cpus
	if left < 0 {
		left += cpus
	}
	return left
}

// Mend: P4.4.
func Mend(cpus, k int, wishes ...int) ([]int, api.Errno) {
	if !may(cpus) {
		return nil, api.ErrSched
	}
	if k < cpus {
		return nil, api.ErrArg
	}
	var w waits
	canBe := func(pick int) bool {
		return w.behind(cpus, pick).within(cpus, k)
	}
	picks := make([]int, len(wishes))
	for i, wish := range wishes {
		pick := wished(wish, cpus)
		if !canBe(pick) {
			pick = w.longest(cpus)
		}
		picks[i], w = pick, w.behind(cpus, pick)
	}
	return picks, api.OK
}
