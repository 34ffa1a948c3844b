package size_test

import (
	"testing"

	"afterglow/api"
	"afterglow/size"
)

// P8.1: the least class whose words are enough; ErrArg below 1, ErrLong above 16.
func TestClass(t *testing.T) {
	for words, want := range []int{1: 0, 2: 0, 3: 1, 4: 1, 5: 2, 6: 2, 7: 2, 8: 2, 9: 3, 10: 3, 11: 3, 12: 3, 13: 3, 14: 3, 15: 3, 16: 3} {
		if words == 0 {
			continue
		}
		if class, e := size.Class(words); class != want || e != api.OK {
			t.Errorf("Class(%d): %d, %d, not %d", words, class, e, want)
		}
	}
	for words := -300; words < 1; words++ {
		if class, e := size.Class(words); class != 0 || e != api.ErrArg {
			t.Errorf("Class(%d): %d, %d", words, class, e)
		}
	}
	for words := 17; words < 300; words++ {
		if class, e := size.Class(words); class != 0 || e != api.ErrLong {
			t.Errorf("Class(%d): %d, %d", words, class, e)
		}
	}
	for _, words := range edges() {
		want := api.ErrLong
		if words < 1 {
			want = api.ErrArg
		}
		if class, e := size.Class(words); class != 0 || e != want {
			t.Errorf("Class(%d): %d, %d, not %d", words, class, e, want)
		}
	}
}

// P8.1: the words of each class, and how many of it a page has; ErrArg for those that are none.
func TestWordsMany(t *testing.T) {
	many := [4]int{8, 4, 2, 1}
	for class, want := range wide() {
		if w, e := size.Words(class); w != want || e != api.OK {
			t.Errorf("Words(%d): %d, %d, not %d", class, w, e, want)
		}
		if n, e := size.Many(class); n != many[class] || e != api.OK {
			t.Errorf("Many(%d): %d, %d, not %d", class, n, e, many[class])
		}
	}
	none := edges()
	for class := 1; class < 100; class++ {
		none = append(none, -class, 3+class)
	}
	for _, class := range none {
		if w, e := size.Words(class); w != 0 || e != api.ErrArg {
			t.Errorf("Words(%d): %d, %d", class, w, e)
		}
		if n, e := size.Many(class); n != 0 || e != api.ErrArg {
			t.Errorf("Many(%d): %d, %d", class, n, e)
		}
	}
}

// P8.2: of all classes and places near those that may be just these are; Find tells where they are.
func TestCheckFind(t *testing.T) {
	l, where := blocks()
	found := map[api.Block]placed{}
	for i, b := range l {
		found[b] = where[i]
	}
	if len(found) != 3840 {
		t.Fatalf("%d blocks", len(found))
	}
	for class := -3; class <= 9; class++ {
		for at := -70; at <= 4300; at++ {
			b := api.Block{At: at, Class: class}
			want, may := found[b]
			if e := size.Check(b); may && e != api.OK || !may && e != api.ErrBlock {
				t.Errorf("Check(%v): %d", b, e)
			}
			page, n, e := size.Find(b)
			if may && e != api.OK || !may && e != api.ErrBlock || page != want.page || n != want.n {
				t.Errorf("Find(%v): %d, %d, %d", b, page, n, e)
			}
		}
	}
}

// P8.2: a block's last word may be the last one of all, and no block is beyond, or ahead of the first one, however far.
func TestCheckEdges(t *testing.T) {
	for class, w := range wide() {
		for _, at := range []int{0, 4096 - w} {
			if e := size.Check(api.Block{At: at, Class: class}); e != api.OK {
				t.Errorf("Check(%d of the class %d): %d", at, class, e)
			}
		}
	}
	for _, b := range noBlocks() {
		if e := size.Check(b); e != api.ErrBlock {
			t.Errorf("Check(%v): %d", b, e)
		}
		if page, n, e := size.Find(b); page != 0 || n != 0 || e != api.ErrBlock {
			t.Errorf("Find(%v): %d, %d, %d", b, page, n, e)
		}
	}
}

// P8.2: the n-th block of a class in a page; ErrLong behind the last page; ErrArg, ahead of that, for no class, no page, or no such number.
func TestPlace(t *testing.T) {
	for class := -2; class <= 6; class++ {
		for page := -3; page <= 300; page++ {
			for n := -3; n <= 20; n++ {
				want, wanted := api.Block{}, api.ErrArg
				if class >= 0 && class < 4 && page >= 0 && n >= 0 && n*wide()[class] < 16 {
					wanted = api.ErrLong
					if page < 256 {
						want, wanted = api.Block{At: page*16 + n*wide()[class], Class: class}, api.OK
					}
				}
				if b, e := size.Place(class, page, n); b != want || e != wanted {
					t.Errorf("Place(%d, %d, %d): %v, %d, not %v, %d", class, page, n, b, e, want, wanted)
				}
			}
		}
	}
}

// P8.2: a page far behind the last one is ErrLong, also where its place would wrap; wrong arguments go ahead of it.
func TestPlaceEdges(t *testing.T) {
	for _, x := range edges() {
		for class := range 4 {
			for n := range 8 >> class {
				want := api.ErrLong
				if x < 0 {
					want = api.ErrArg
				}
				b, e := size.Place(class, x, n)
				if x == 64 {
					if b != (api.Block{At: 1024 + n*wide()[class], Class: class}) || e != api.OK {
						t.Errorf("Place(%d, %d, %d): %v, %d", class, x, n, b, e)
					}
				} else if b != (api.Block{}) || e != want {
					t.Errorf("Place(%d, %d, %d): %v, %d, not %d", class, x, n, b, e, want)
				}
			}
			for _, page := range append(edges(), 0, 255) {
				if b, e := size.Place(class, page, x); b != (api.Block{}) || e != api.ErrArg {
					t.Errorf("Place(%d, %d, %d): %v, %d", class, page, x, b, e)
				}
			}
		}
		for _, page := range append(edges(), 0, 255) {
			if b, e := size.Place(x, page, 0); b != (api.Block{}) || e != api.ErrArg {
				t.Errorf("Place(%d, %d, 0): %v, %d", x, page, b, e)
			}
		}
	}
}
