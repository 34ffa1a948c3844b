package size_test

import (
	"slices"
	"testing"

	"afterglow/api"
	"afterglow/size"
)

// P8.4: of each block the blocks of each class whose words it has, in order; ErrLong for a greater class.
func TestParts(t *testing.T) {
	all, where := blocks()
	for i, b := range all {
		page := where[i].page
		for class := range 4 {
			var want []api.Block
			for j := page * 15; j < page*15+15; j++ {
				if all[j].Class == class && within(where[j], where[i]) {
					want = append(want, all[j])
				}
			}
			wanted := api.OK
			if class > b.Class {
				wanted = api.ErrLong
			}
			if l, e := size.Parts(b, class); e != wanted || !slices.Equal(l, want) {
				t.Errorf("Parts(%v, %d): %v, %d, not %v, %d", b, class, l, e, want, wanted)
			}
		}
	}
}

// P8.4: some, written out.
func TestPartsWritten(t *testing.T) {
	for _, c := range []struct {
		b     api.Block
		class int
		at    []int
	}{
		{api.Block{At: 8, Class: 2}, 1, []int{8, 12}},
		{api.Block{At: 8, Class: 2}, 2, []int{8}},
		{api.Block{At: 4080, Class: 3}, 0, []int{4080, 4082, 4084, 4086, 4088, 4090, 4092, 4094}},
		{api.Block{At: 4080, Class: 3}, 1, []int{4080, 4084, 4088, 4092}},
		{api.Block{At: 0, Class: 3}, 2, []int{0, 8}},
		{api.Block{At: 32, Class: 3}, 3, []int{32}},
		{api.Block{At: 4094}, 0, []int{4094}},
	} {
		l := mustPart(t, c.b, c.class)
		if len(l) != len(c.at) {
			t.Errorf("Parts(%v, %d): %v", c.b, c.class, l)
			continue
		}
		for i, at := range c.at {
			if l[i] != (api.Block{At: at, Class: c.class}) {
				t.Errorf("Parts(%v, %d): %v", c.b, c.class, l)
			}
		}
	}
}

// P8.4: of each block the one of each class that has all its words; ErrArg for a lesser class.
func TestAround(t *testing.T) {
	all, where := blocks()
	for i, b := range all {
		page := where[i].page
		for class := range 4 {
			want, wanted := api.Block{}, api.ErrArg
			for j := page * 15; j < page*15+15; j++ {
				if all[j].Class == class && within(where[i], where[j]) {
					want, wanted = all[j], api.OK
				}
			}
			if c, e := size.Around(b, class); c != want || e != wanted {
				t.Errorf("Around(%v, %d): %v, %d, not %v, %d", b, class, c, e, want, wanted)
			}
		}
	}
}

// P8.4: some, written out.
func TestAroundWritten(t *testing.T) {
	for _, c := range []struct {
		b         api.Block
		class, at int
	}{
		{api.Block{At: 12, Class: 1}, 2, 8},
		{api.Block{At: 12, Class: 1}, 3, 0},
		{api.Block{At: 12, Class: 1}, 1, 12},
		{api.Block{At: 4094}, 0, 4094},
		{api.Block{At: 4094}, 1, 4092},
		{api.Block{At: 4094}, 2, 4088},
		{api.Block{At: 4094}, 3, 4080},
		{api.Block{At: 16, Class: 3}, 3, 16},
		{api.Block{}, 3, 0},
	} {
		if b, e := size.Around(c.b, c.class); b != (api.Block{At: c.at, Class: c.class}) || e != api.OK {
			t.Errorf("Around(%v, %d): %v, %d, not %d", c.b, c.class, b, e, c.at)
		}
	}
}

// P8.4: ErrBlock goes ahead of all else; then ErrArg, if there is no such class.
func TestPartsErrors(t *testing.T) {
	noClass := edges()
	for class := 4; class < 40; class++ {
		noClass = append(noClass, class, 3-class)
	}
	for _, b := range noBlocks() {
		for _, class := range append(noClass, 0, 1, 2, 3, b.Class) {
			if l, e := size.Parts(b, class); e != api.ErrBlock || len(l) != 0 {
				t.Errorf("Parts(%v, %d): %v, %d", b, class, l, e)
			}
			if c, e := size.Around(b, class); e != api.ErrBlock || c != (api.Block{}) {
				t.Errorf("Around(%v, %d): %v, %d", b, class, c, e)
			}
		}
	}
	l, _ := few()
	for _, b := range l {
		for _, class := range noClass {
			if l, e := size.Parts(b, class); e != api.ErrArg || len(l) != 0 {
				t.Errorf("Parts(%v, %d): %v, %d", b, class, l, e)
			}
			if c, e := size.Around(b, class); e != api.ErrArg || c != (api.Block{}) {
				t.Errorf("Around(%v, %d): %v, %d", b, class, c, e)
			}
		}
	}
}

// P8.4: parts that are asked for twice share nothing.
func TestPartsNew(t *testing.T) {
	b := api.Block{At: 32, Class: 3}
	first, second := mustPart(t, b, 2), mustPart(t, b, 2)
	for i := range first[:cap(first)] {
		first[:cap(first)][i] = api.Block{At: 1, Class: 9}
	}
	want := []api.Block{{At: 32, Class: 2}, {At: 40, Class: 2}}
	if !slices.Equal(second, want) || !slices.Equal(mustPart(t, b, 2), want) {
		t.Errorf("parts are shared: %v", second)
	}
}
