package size_test

import (
	"math"
	"slices"
	"testing"

	"afterglow/api"
	"afterglow/size"
)

// chance follows from a short rule, and is the same each time.
type chance uint64

func (c *chance) below(n int) int {
	*c = *c*6364136223846793005 + 1442695040888963407
	return int(uint64(*c>>33) % uint64(n))
}

// placed is a block, told otherwise: its page, how many of its class are there ahead of it, and a flag for each word of the page that it has.
type placed struct {
	page, n int
	mask    uint16
}

// wide are the words of the classes.
func wide() [4]int { return [4]int{2, 4, 8, 16} }

// blocks are all that may be, page by page, class by class.
func blocks() ([]api.Block, []placed) {
	var l []api.Block
	var p []placed
	for page := range 256 {
		for class, w := range wide() {
			for n := 0; n*w < 16; n++ {
				l = append(l, api.Block{At: page*16 + n*w, Class: class})
				p = append(p, placed{page, n, uint16((1<<w - 1) << (n * w))})
			}
		}
	}
	return l, p
}

// few are the blocks of the first two pages, of one between, and of the last one.
func few() ([]api.Block, []placed) {
	var l []api.Block
	var p []placed
	all, where := blocks()
	for i, b := range all {
		if slices.Contains([]int{0, 1, 100, 255}, where[i].page) {
			l, p = append(l, b), append(p, where[i])
		}
	}
	return l, p
}

// meet says whether a word lies in both.
func meet(a, b placed) bool {
	return a.page == b.page && a.mask&b.mask != 0
}

// within says whether b has all words of a.
func within(a, b placed) bool {
	return a.page == b.page && a.mask&^b.mask == 0
}

// edges are numbers that are often none of a class, a page, or a place.
func edges() []int {
	return []int{math.MinInt, math.MinInt + 1, math.MinInt + 16, -1 << 60, -1 << 59, -1 << 32, -4096, -256, -64, -16, -2, -1, 64, 256, 4096, 4097, 4112, 1 << 32, 1<<32 + 1, 1 << 58, 1 << 59, 1<<59 - 1, 1 << 60, 1<<60 + 1, 1 << 62, math.MaxInt - 15, math.MaxInt - 1, math.MaxInt}
}

// noBlocks are some that may not be, each for one cause alone.
func noBlocks() []api.Block {
	var l []api.Block
	for _, class := range []int{math.MinInt, -1 << 32, -2, -1, 4, 5, 63, 64, 1 << 32, math.MaxInt} {
		l = append(l, api.Block{Class: class}, api.Block{At: 16, Class: class}, api.Block{At: 64, Class: class}, api.Block{At: 4080, Class: class})
	}
	for class, w := range wide() {
		for _, at := range []int{math.MinInt, -1 << 60, -4096, -16, 4096, 4112, 8192, 1 << 32, 1 << 60, math.MaxInt - 15} {
			l = append(l, api.Block{At: at, Class: class})
		}
		for _, at := range []int{0, 16, 32, 2048, 4096 - w} {
			l = append(l, api.Block{At: at + 1, Class: class}, api.Block{At: at + w/2, Class: class}, api.Block{At: at + w - 1, Class: class})
		}
		l = append(l, api.Block{At: -w, Class: class}, api.Block{At: -1, Class: class}, api.Block{At: math.MaxInt, Class: class})
	}
	return l
}

// roomy is l with room behind its end, and something there.
func roomy(l []api.Block) []api.Block {
	return append(slices.Clone(l), slices.Repeat([]api.Block{{At: 55, Class: 7}}, 9)...)[:len(l)]
}

// mustPart tells the blocks of a class in b.
func mustPart(t *testing.T, b api.Block, class int) []api.Block {
	t.Helper()
	l, e := size.Parts(b, class)
	if e != api.OK {
		t.Fatalf("Parts(%v, %d): %v, %d", b, class, l, e)
	}
	return l
}
