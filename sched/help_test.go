package sched_test

import (
	"iter"
	"math"
	"slices"
)

// chance follows from a short rule, and is the same each time.
type chance uint64

func (c *chance) word() uint64 {
	*c = *c*6364136223846793005 + 1442695040888963407
	high := uint64(*c) >> 32
	*c = *c*6364136223846793005 + 1442695040888963407
	return high<<32 | uint64(*c)>>32
}

func (c *chance) below(n int) int {
	return int(c.word() >> 1 % uint64(n))
}

// somePicks are some, at times many of the same CPU, or of few CPUs.
func (c *chance) somePicks(cpus, most int) []int {
	l := make([]int, 0, most)
	for want := c.below(most + 1); len(l) < want; {
		among := 1 + c.below(cpus)
		for range min(1+c.below(12), want-len(l)) {
			l = append(l, c.below(among))
		}
	}
	return l
}

// someWishes are any numbers, small ones and great ones, below 0, too; at times many of the same.
func (c *chance) someWishes(most int) []int {
	l := make([]int, 0, most)
	for want := c.below(most + 1); len(l) < want; {
		wish := int(c.word()) >> (c.below(8) * 8)
		many := 1
		if c.below(2) == 0 {
			many += c.below(20)
		}
		l = append(l, slices.Repeat([]int{wish}, min(many, want-len(l)))...)
	}
	return l
}

// rows tells each row of at most so many numbers, from one number on up to one, in a row that is its own.
func rows(from, to, most int) iter.Seq[[]int] {
	return func(yield func([]int) bool) {
		l := []int{}
		for {
			if !yield(slices.Clone(l)) {
				return
			}
			at := len(l) - 1
			for at >= 0 && l[at] == to {
				l[at] = from
				at--
			}
			switch {
			case at >= 0:
				l[at]++
			case len(l) < most:
				l = append(l, from)
			default:
				return
			}
		}
	}
}

// noPicks is how many CPUs there are, and picks that are none of so many.
type noPicks struct {
	cpus  int
	picks []int
}

// wrongPicks are some, each for one cause alone.
func wrongPicks() []noPicks {
	var l []noPicks
	for _, cpus := range []int{math.MinInt, -8, -1, 0, 9, 10, 16, 1<<32 + 2, math.MaxInt} {
		l = append(l, noPicks{cpus, nil}, noPicks{cpus, []int{}}, noPicks{cpus, []int{0}}, noPicks{cpus, []int{0, 1, 0}})
	}
	for cpus := 1; cpus <= 8; cpus++ {
		for _, pick := range []int{math.MinInt, -cpus, -1, cpus, cpus + 1, 9, 1 << 32, math.MaxInt} {
			for at := range 5 {
				picks := []int{0, cpus - 1, 0, cpus / 2, 0}
				picks[at] = pick
				l = append(l, noPicks{cpus, picks})
			}
			l = append(l, noPicks{cpus, []int{pick}}, noPicks{cpus, append(make([]int, 5000), pick)})
		}
	}
	return l
}

// waitOf is the wait of a CPU behind picks, told from the last pick on.
func waitOf(picks []int, cpu int) int {
	for back := range picks {
		if picks[len(picks)-1-back] == cpu {
			return back
		}
	}
	return len(picks)
}

func waitsOf(cpus int, picks []int) []int {
	var l []int
	for cpu := range cpus {
		l = append(l, waitOf(picks, cpu))
	}
	return l
}

// hasAll says whether each CPU is one of the picks.
func hasAll(cpus int, picks []int) bool {
	for cpu := range cpus {
		if !slices.Contains(picks, cpu) {
			return false
		}
	}
	return true
}

// fairOf says whether of each k that stand together each CPU is one.
func fairOf(cpus int, picks []int, k int) bool {
	for from := 0; k >= 1 && from <= len(picks)-k; from++ {
		if !hasAll(cpus, picks[from:from+k]) {
			return false
		}
	}
	return k >= 1
}

// leastOf tries each k.
func leastOf(cpus int, picks []int) int {
	k := 1
	for !fairOf(cpus, picks, k) {
		k++
	}
	return k
}

// roundsOf takes one round off behind the other.
func roundsOf(cpus int, picks []int) int {
	many := 0
	for n := 1; n <= len(picks); n++ {
		if hasAll(cpus, picks[:n]) {
			many++
			picks, n = picks[n:], 0
		}
	}
	return many
}

// canBeOf says whether the waits behind picks are short enough.
func canBeOf(cpus, k int, picks []int) bool {
	l := waitsOf(cpus, picks)
	slices.Sort(l)
	slices.Reverse(l)
	for i, wait := range l {
		if wait > k-1-i {
			return false
		}
	}
	return true
}

// mendOf are the picks by wishes, told from the picks ahead anew each time.
func mendOf(cpus, k int, wishes []int) []int {
	var picks []int
	for _, wish := range wishes {
		pick := ((wish % cpus) + cpus) % cpus
		if !canBeOf(cpus, k, append(slices.Clone(picks), pick)) {
			waits := waitsOf(cpus, picks)
			pick = slices.Index(waits, slices.Max(waits))
		}
		picks = append(picks, pick)
	}
	return picks
}

// splitOf are the places of each CPU's picks, CPU by CPU.
func splitOf(cpus int, picks []int) [][]int {
	l := make([][]int, cpus)
	for cpu := range l {
		for at, pick := range picks {
			if pick == cpu {
				l[cpu] = append(l[cpu], at)
			}
		}
	}
	return l
}

func alike(a, b [][]int) bool {
	return slices.EqualFunc(a, b, slices.Equal)
}

// roomy is l with room behind its end, and something there.
func roomy(l []int) []int {
	return append(slices.Clone(l), 0, 1, -99)[:len(l)]
}

// scrub writes over all of l, the room behind it, too.
func scrub(l []int) {
	l = l[:cap(l)]
	for i := range l {
		l[i] = -7
	}
}
