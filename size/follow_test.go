package size_test

import (
	"testing"

	"afterglow/api"
	"afterglow/size"
)

// P8.5: Find of Place is the place, and no two places have one block.
func TestFindOfPlace(t *testing.T) {
	seen := map[api.Block]bool{}
	for class := range 4 {
		many, _ := size.Many(class)
		for page := range 256 {
			for n := range many {
				b, e := size.Place(class, page, n)
				if e != api.OK || size.Check(b) != api.OK || b.Class != class || seen[b] {
					t.Fatalf("Place(%d, %d, %d): %v, %d", class, page, n, b, e)
				}
				seen[b] = true
				if p, k, e := size.Find(b); p != page || k != n || e != api.OK {
					t.Fatalf("Find of Place(%d, %d, %d): %d, %d, %d", class, page, n, p, k, e)
				}
			}
		}
	}
	if len(seen) != 3840 {
		t.Errorf("%d blocks have places", len(seen))
	}
}

// P8.5: Place of Find is the block.
func TestPlaceOfFind(t *testing.T) {
	all, _ := blocks()
	for _, b := range all {
		page, n, e := size.Find(b)
		if e != api.OK {
			t.Fatalf("Find(%v): %d", b, e)
		}
		if c, e := size.Place(b.Class, page, n); c != b || e != api.OK {
			t.Fatalf("Place of Find(%v): %v, %d", b, c, e)
		}
	}
}

// holders counts, by words, how many of these blocks have it.
func holders(t *testing.T, l ...api.Block) map[int]int {
	t.Helper()
	of := map[int]int{}
	for _, b := range l {
		words, e := size.Words(b.Class)
		if e != api.OK {
			t.Fatalf("Words(%d): %d", b.Class, e)
		}
		for n := range words {
			of[b.At+n]++
		}
	}
	return of
}

// P8.5: parts are apart, and have just the block's words; each has the block around itself.
func TestPartsOfAll(t *testing.T) {
	all, _ := blocks()
	for _, b := range all {
		whole := holders(t, b)
		for class := range b.Class + 1 {
			l := mustPart(t, b, class)
			if !size.Apart(l...) {
				t.Fatalf("Parts(%v, %d) are not apart: %v", b, class, l)
			}
			had := holders(t, l...)
			for word, many := range had {
				if many != 1 || whole[word] != 1 {
					t.Fatalf("%d of Parts(%v, %d) have the word %d", many, b, class, word)
				}
			}
			if len(had) != len(whole) {
				t.Fatalf("Parts(%v, %d) have %d words", b, class, len(had))
			}
			for _, part := range l {
				if around, e := size.Around(part, b.Class); around != b || e != api.OK {
					t.Fatalf("Around(%v, %d): %v, %d, not %v", part, b.Class, around, e, b)
				}
			}
		}
	}
}

// P8.5: of two blocks that overlap one has all words of the other one: it is around it, and has it among its parts.
func TestOneInTheOther(t *testing.T) {
	l, _ := few()
	for _, a := range l {
		for _, b := range l {
			small, big := a, b
			if a.Class > b.Class {
				small, big = b, a
			}
			around, e := size.Around(small, big.Class)
			if e != api.OK || (around == big) != size.Overlap(a, b) {
				t.Fatalf("Overlap(%v, %v): %v, but around is %v, %d", a, b, size.Overlap(a, b), around, e)
			}
			if !size.Overlap(a, b) {
				continue
			}
			of := holders(t, big)
			for word := range holders(t, small) {
				if of[word] != 1 {
					t.Fatalf("%v and %v overlap, but %d is in one alone", small, big, word)
				}
			}
		}
	}
}

// P8.5: the class that Class tells has words enough, and the one below it has not; a page's blocks of a class are its words.
func TestClassWords(t *testing.T) {
	for n := 1; n <= 16; n++ {
		class, e := size.Class(n)
		words, _ := size.Words(class)
		less, below := size.Words(class - 1)
		if e != api.OK || words < n || below == api.OK && less >= n {
			t.Errorf("Class(%d): %d, of %d words", n, class, words)
		}
	}
	for class := range 4 {
		words, _ := size.Words(class)
		many, _ := size.Many(class)
		if words*many != 16 {
			t.Errorf("%d blocks of the class %d, of %d words, are no page", many, class, words)
		}
	}
}
