package size

import "afterglow/api"

// Overlap: P8.3.
func Overlap(a, b api.Block) bool {
	return may(a) && may(b) && a.At < b.At+sizes[b.Class] && b.At < a.At+sizes[a.Class]
}

// Apart: P8.3.
func Apart(l ...api.Block) bool {
	taken := map[int]int{} // by words: how many blocks have it
	apart := true
row:
	for _, b := range l {
		if !may(b) {
			apart = false
			break row
		}
		for word := range wordsOf(b) {
			taken[word]++
			if taken[word] > 1 {
				apart = false
				break row
			}
		}
	}
	return apart
}
