package memory

import (
	"iter"
	"slices"

	"afterglow/api"
)

// spans tells the rows of live words that stand together, in order: of each the first word, and how many.
func spans(live []bool) iter.Seq[[2]int] {
	return func(yield func([2]int) bool) {
		for from := 0; from < len(live); {
			many := slices.Index(live[from:], false)
			if many < 0 {
				many = len(live) - from
			}
			if many > 0 && !yield([2]int{from, many}) {
				return
			}
			from += many + 1 // the word behind a row is free, or not there
		}
	}
}

// lives is how many of these words are live.
func lives(m api.Memory, from, many int) int {
	n := 0
rows:
	for row := range spans(m.Live) {
		first, behind := max(row[0], from), min(row[0]+row[1], from+many)
		switch {
		case row[0] >= from+many:
			break rows // they come in order: none of the others is among these words
		case first < behind:
			n += behind - first
		}
	}
	return n
}

// Spans: P2.4.
func Spans(m api.Memory) [][2]int {
	if Check(m) != api.OK {
		return nil
	}
	return slices.Collect(spans(m.Live))
}
