package size_test

import (
	"math"
	"slices"
	"testing"

	"afterglow/api"
	"afterglow/size"
)

// P8.3: any two blocks overlap just if a word lies in both; each does with itself.
func TestOverlap(t *testing.T) {
	l, where := blocks()
	for i, a := range l {
		for j, b := range l {
			if got := size.Overlap(a, b); got != meet(where[i], where[j]) {
				t.Fatalf("Overlap(%v, %v): %v", a, b, got)
			}
		}
	}
}

// P8.3: what may not be overlaps with nothing, not with itself, either.
func TestOverlapNothing(t *testing.T) {
	l, _ := blocks()
	none := noBlocks()
	for _, a := range none {
		for _, b := range append(l, none...) {
			if size.Overlap(a, b) || size.Overlap(b, a) {
				t.Fatalf("%v and %v overlap", a, b)
			}
		}
	}
}

// P8.3: of none, or one; of neighbours; of one that is there twice, or in another one, wherever they stand in the row.
func TestApart(t *testing.T) {
	for _, c := range []struct {
		want bool
		l    []api.Block
	}{
		{true, nil},
		{true, []api.Block{}},
		{true, []api.Block{{}}},
		{true, []api.Block{{At: 4080, Class: 3}}},
		{true, []api.Block{{}, {At: 2}, {At: 4, Class: 1}, {At: 8, Class: 2}, {At: 16, Class: 3}}},
		{true, []api.Block{{At: 16, Class: 3}, {At: 8, Class: 2}, {At: 4, Class: 1}, {At: 2}, {}}},
		{true, []api.Block{{At: 14}, {At: 16, Class: 3}, {At: 32}}},
		{false, []api.Block{{}, {}}},
		{false, []api.Block{{At: 8, Class: 2}, {}, {At: 8, Class: 2}}},
		{false, []api.Block{{}, {Class: 1}}},
		{false, []api.Block{{Class: 1}, {}}},
		{false, []api.Block{{Class: 3}, {At: 14}}},
		{false, []api.Block{{At: 14}, {Class: 3}}},
		{false, []api.Block{{Class: 3}, {At: 12, Class: 1}}},
		{false, []api.Block{{At: 16, Class: 3}, {Class: 3}, {At: 32}, {At: 24, Class: 2}}},
		{false, []api.Block{{Class: 4}}},
		{false, []api.Block{{At: -2}}},
		{false, []api.Block{{At: 1}}},
		{false, []api.Block{{At: 4096}}},
		{false, []api.Block{{}, {At: 16, Class: 3}, {At: 4088, Class: 3}}},
		{false, []api.Block{{At: 1}, {}, {At: 2}}},
	} {
		if got := size.Apart(c.l...); got != c.want {
			t.Errorf("Apart(%v): %v", c.l, got)
		}
	}
}

// P8.3: all blocks of a class are apart; with one more, at either end of the row, they are not.
func TestApartAll(t *testing.T) {
	all, _ := blocks()
	var c chance
	for class := range 4 {
		var l []api.Block
		for _, b := range all {
			if b.Class == class {
				l = append(l, b)
			}
		}
		if !size.Apart(l...) {
			t.Errorf("those of the class %d are not apart", class)
		}
		slices.Reverse(l)
		if !size.Apart(l...) {
			t.Errorf("those of the class %d, falling, are not apart", class)
		}
		for _, more := range append(noBlocks(), all[c.below(len(all))], all[0], all[len(all)-1]) {
			if size.Apart(append(slices.Clone(l), more)...) || size.Apart(append([]api.Block{more}, l...)...) {
				t.Errorf("those of the class %d, and %v, are apart", class, more)
			}
		}
	}
	if size.Apart(make([]api.Block, 200000)...) {
		t.Error("one block, again and again, is apart")
	}
}

// P8.3: any rows, as two by two tell.
func TestApartTwoByTwo(t *testing.T) {
	l, where := few()
	var c chance
	had := map[bool]int{}
	for range 20000 {
		var row []api.Block
		var at []placed
		for range 1 + c.below(6) {
			i := c.below(len(l))
			row, at = append(row, l[i]), append(at, where[i])
		}
		want := true
		for i := range at {
			for j := range i {
				want = want && !meet(at[i], at[j])
			}
		}
		had[want]++
		if got := size.Apart(row...); got != want {
			t.Fatalf("Apart(%v): %v", row, got)
		}
	}
	if had[true] < 100 || had[false] < 100 {
		t.Errorf("rows: %v", had)
	}
}

// P8.3: one that may not be is told at each place of a row.
func TestApartWrong(t *testing.T) {
	for _, b := range noBlocks() {
		for at := range 4 {
			l := slices.Insert([]api.Block{{At: 64, Class: 3}, {At: 80}, {At: 96, Class: 1}}, at, b)
			if size.Apart(l...) {
				t.Errorf("Apart(%v)", l)
			}
		}
	}
	if size.Apart(api.Block{At: math.MaxInt, Class: math.MaxInt}) {
		t.Error("what may not be is apart")
	}
}

// P8.3: what is handed in stays as it is, the room behind it, too.
func TestApartKeeps(t *testing.T) {
	for _, l := range [][]api.Block{nil, {{At: 8, Class: 2}, {}}, {{At: 8, Class: 2}, {At: 8}, {}}, {{At: 3}, {At: 2}}} {
		given := roomy(l)
		before := slices.Clone(given[:cap(given)])
		size.Apart(given...)
		if !slices.Equal(given[:cap(given)], before) {
			t.Errorf("%v is changed: %v", before, given[:cap(given)])
		}
	}
}
