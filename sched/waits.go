package sched

import (
	"cmp"
	"slices"

	"afterglow/api"
)

// waits are the waits of CPUs, by their numbers; of a CPU that is not there it is 0.
type waits [api.MaxCpus]int

// behind are the waits behind one more pick.
func (w waits) behind(cpus, pick int) waits {
	for cpu := range cpus {
		w[cpu]++
	}
	w[pick] = 0
	return w
}

// greatest is the place of the greatest one of l, of several the first.
func greatest[T cmp.Ordered](l []T) int {
	at := 0
	for i, v := range l {
		if v > l[at] {
			at = i
		}
	}
	return at
}

// longest is the CPU that waits longest, of several the one of the least number.
func (w waits) longest(cpus int) int {
	return greatest(w[:cpus])
}

// Waits: P4.2.
func Waits(cpus int, picks []int) []int {
	if Check(cpus, picks) != api.OK {
		return nil
	}
	var w waits
	for _, pick := range picks {
		w = w.behind(cpus, pick)
	}
	return slices.Clone(w[:cpus])
}

// Least: P4.2. A CPU that waits so long behind some pick is none of so many that stand together there, so k has to be more than the longest wait of all; and that is enough.
func Least(cpus int, picks []int) int {
	if Check(cpus, picks) != api.OK {
		return 0
	}
	var w waits
	most := 0
	for _, pick := range picks {
		w = w.behind(cpus, pick)
		most = max(most, w[w.longest(cpus)])
	}
	return most + 1
}

// Fair: P4.2.
func Fair(cpus int, picks []int, k int) bool {
	least := Least(cpus, picks)
	return least > 0 && k >= least
}
