package script

import (
	"iter"
	"slices"

	"afterglow/api"
	"afterglow/bits"
)

// The parts of words: two of the first word, then three of one with which a record begins.
const (
	cpusPart = iota
	pagesPart
	kindPart
	cpuPart
	manyPart
)

// fields says which bits are which part.
var fields = [...]api.Field{
	cpusPart:  {At: 0, Wide: 3},
	pagesPart: {At: 8, Wide: 6},
	kindPart:  {At: 0, Wide: 2},
	cpuPart:   {At: 8, Wide: 3},
	manyPart:  {At: 16, Wide: 8},
}

// The kinds of records; a word that has another number there begins none.
const (
	callKind = 1 + iota
	picksKind
	kinds = 1 << 2 // the numbers that its bits can say
)

const (
	callWords = 6      // the words of a call's record
	mostRun   = 1 << 8 // as many picks as a word can say: it says one less
)

// has is a number that a word has in a part.
type has struct{ part, number int }

// word has these numbers, and 0 elsewhere. Of a script that may be each one fits.
func word(l ...has) uint64 {
	var w uint64
	for _, h := range l {
		w, _ = bits.Set(w, fields[h.part], uint64(h.number))
	}
	return w
}

// get is what the word has in a part.
func get(w uint64, part int) int {
	v, _ := bits.Get(w, fields[part])
	return int(v)
}

// row is words that are put one behind the other.
type row []uint64

func (r *row) put(words ...uint64) {
	*r = append(*r, words...)
}

// runs tells the runs of picks, in order: of each which one it is, and how many.
func runs(picks []int) iter.Seq[[2]int] {
	return func(yield func([2]int) bool) {
		for from := 0; from < len(picks); {
			many := 1
			for many < mostRun && from+many < len(picks) && picks[from+many] == picks[from] {
				many++
			}
			if !yield([2]int{picks[from], many}) {
				return
			}
			from += many
		}
	}
}

// Runs: P3.4.
func Runs(picks []int) [][2]int {
	return slices.Collect(runs(picks))
}

// Of: P3.2.
func Of(s api.Script) ([]uint64, api.Errno) {
	if errno := Check(s); errno != api.OK {
		return nil, errno
	}
	var words row
	words.put(word(has{cpusPart, s.Cpus - 1}, has{pagesPart, s.Pages - 1}))
	for cpu, list := range s.Lists {
		for _, c := range list {
			words.put(word(has{kindPart, callKind}, has{cpuPart, cpu}), c.Kind)
			words.put(c.Args[:]...)
		}
	}
	for run := range runs(s.Picks) {
		words.put(word(has{kindPart, picksKind}, has{cpuPart, run[0]}, has{manyPart, run[1] - 1}))
	}
	return words, api.OK
}
