package sched

import (
	"iter"
	"slices"

	"afterglow/api"
)

// rounds tells the picks of each whole round, in order.
func rounds(cpus int, picks []int) iter.Seq[[]int] {
	return func(yield func([]int) bool) {
		left := picks
	whole:
		for {
			many := 0
			for cpu := range cpus {
				at := slices.Index(left, cpu)
				if at < 0 {
					break whole // a CPU that is not picked any more is in no round behind, either
				}
				many = max(many, at+1)
			}
			if !yield(left[:many:many]) {
				return
			}
			left = left[many:]
		}
	}
}

// Rounds: P4.3.
func Rounds(cpus int, picks []int) int {
	if Check(cpus, picks) != api.OK {
		return 0
	}
	many := 0
	for range rounds(cpus, picks) {
		many++
	}
	return many
}
