package bits_test

import (
	"slices"
	"testing"

	"afterglow/api"
	"afterglow/bits"
)

// P1.1: what is a field, and what is none.
func TestCheckOne(t *testing.T) {
	for _, f := range allFields() {
		if e := bits.Check(f); e != api.OK {
			t.Errorf("Check(%v): %d", f, e)
		}
	}
	for _, f := range noFields() {
		if e := bits.Check(f); e != api.ErrField {
			t.Errorf("Check(%v): %d", f, e)
		}
	}
}

// P1.1: two fields lie apart, if they have no bit together, whichever comes first.
func TestCheckTwo(t *testing.T) {
	all := allFields()
	for _, a := range all {
		for _, b := range all {
			want := api.OK
			if a.At < b.At+b.Wide && b.At < a.At+a.Wide {
				want = api.ErrField
			}
			if e := bits.Check(a, b); e != want {
				t.Fatalf("Check(%v, %v): %d, not %d", a, b, e, want)
			}
		}
	}
}

// P1.1: no fields, many, and one that is wrong at any place among them.
func TestCheckMany(t *testing.T) {
	if e := bits.Check(); e != api.OK {
		t.Errorf("Check of none: %d", e)
	}
	var single []api.Field
	for at := range 64 {
		single = append(single, api.Field{At: 63 - at, Wide: 1})
	}
	if e := bits.Check(single...); e != api.OK {
		t.Errorf("Check of each bit: %d", e)
	}
	for i := range single {
		again := slices.Clone(single)
		again[i] = single[(i+32)%64]
		if e := bits.Check(again...); e != api.ErrField {
			t.Errorf("Check with a bit twice, at %d: %d", i, e)
		}
		for _, f := range noFields() {
			none := slices.Clone(single)
			none[i] = f
			if e := bits.Check(none...); e != api.ErrField {
				t.Errorf("Check with %v at %d: %d", f, i, e)
			}
		}
	}
	if e := bits.Check(append(single, api.Field{At: 0, Wide: 1})...); e != api.ErrField {
		t.Errorf("Check of a bit too many: %d", e)
	}
	if e := bits.Check(api.Field{At: 4, Wide: 3}, api.Field{At: 0, Wide: 4}, api.Field{At: 6, Wide: 1}); e != api.ErrField {
		t.Errorf("Check of the first and the last one together: %d", e)
	}
}

// P1.1: Get tells the bits of the field alone.
func TestGet(t *testing.T) {
	for _, w := range words() {
		bit := bitsOf(w)
		for _, f := range allFields() {
			want := sum(bit[f.At : f.At+f.Wide])
			if v, e := bits.Get(w, f); e != api.OK || v != want {
				t.Fatalf("Get(%d, %v): %d %d, not %d", w, f, v, e, want)
			}
		}
	}
	for _, f := range noFields() {
		if v, e := bits.Get(wholeWord, f); e != api.ErrField || v != 0 {
			t.Errorf("Get of %v: %d %d", f, v, e)
		}
	}
}

// P1.1: Set changes the bits of the field alone.
func TestSet(t *testing.T) {
	for _, w := range words() {
		for _, f := range allFields() {
			top := sum(slices.Repeat([]uint64{1}, f.Wide))
			for _, v := range []uint64{0, 1, top / 3, top - 1, top} {
				bit := bitsOf(w)
				copy(bit[f.At:f.At+f.Wide], bitsOf(v))
				if n, e := bits.Set(w, f, v); e != api.OK || n != sum(bit) {
					t.Fatalf("Set(%d, %v, %d): %d %d, not %d", w, f, v, n, e, sum(bit))
				}
			}
		}
	}
}

// P1.1: Set of what does not fit; what is no field is told first.
func TestSetWrong(t *testing.T) {
	for _, f := range allFields() {
		if f.Wide == 64 {
			continue
		}
		first := sum(slices.Repeat([]uint64{1}, f.Wide)) + 1
		for _, v := range []uint64{first, first + 1, 1 << 63, wholeWord} {
			if n, e := bits.Set(5, f, v); e != api.ErrRange || n != 0 {
				t.Fatalf("Set(5, %v, %d): %d %d", f, v, n, e)
			}
		}
	}
	for _, f := range noFields() {
		for _, v := range []uint64{0, wholeWord} {
			if n, e := bits.Set(5, f, v); e != api.ErrField || n != 0 {
				t.Errorf("Set(5, %v, %d): %d %d", f, v, n, e)
			}
		}
	}
}

// P1.2: Pack puts each number in its field, and 0 elsewhere.
func TestPack(t *testing.T) {
	f := api.Field{At: 4, Wide: 3}
	low, top := api.Field{At: 0, Wide: 4}, api.Field{At: 63, Wide: 1}
	cases := []struct {
		l    []api.Field
		v    []uint64
		want uint64
	}{
		{nil, nil, 0},
		{[]api.Field{}, []uint64{}, 0},
		{[]api.Field{f}, []uint64{7}, 112},
		{[]api.Field{f, low}, []uint64{5, 10}, 90},
		{[]api.Field{low, f}, []uint64{10, 5}, 90},
		{[]api.Field{top, f, low}, []uint64{1, 0, 15}, 1<<63 + 15},
		{[]api.Field{{At: 0, Wide: 64}}, []uint64{wholeWord}, wholeWord},
		{[]api.Field{{At: 32, Wide: 32}, {At: 0, Wide: 32}}, []uint64{0xffff_ffff, 0}, 0xffff_ffff_0000_0000},
	}
	for _, c := range cases {
		if w, e := bits.Pack(c.l, c.v...); e != api.OK || w != c.want {
			t.Errorf("Pack(%v, %v): %d %d, not %d", c.l, c.v, w, e, c.want)
		}
	}
}

// P1.2: what is wrong is told in the chapter's order, and no word with it.
func TestPackWrong(t *testing.T) {
	f, low := api.Field{At: 4, Wide: 3}, api.Field{At: 0, Wide: 4}
	over := api.Field{At: 6, Wide: 1}
	cases := []struct {
		l    []api.Field
		v    []uint64
		want api.Errno
	}{
		{[]api.Field{f, over}, []uint64{1, 1}, api.ErrField},
		{[]api.Field{f, over}, []uint64{8, 1}, api.ErrField},
		{[]api.Field{f, over}, nil, api.ErrField},
		{[]api.Field{f, {}}, []uint64{1, 0}, api.ErrField},
		{[]api.Field{f, {}}, []uint64{8}, api.ErrField},
		{nil, []uint64{0}, api.ErrArg},
		{[]api.Field{f}, nil, api.ErrArg},
		{[]api.Field{f, low}, []uint64{1}, api.ErrArg},
		{[]api.Field{f, low}, []uint64{8}, api.ErrArg},
		{[]api.Field{f, low}, []uint64{1, 2, 3}, api.ErrArg},
		{[]api.Field{f, low}, []uint64{8, 16, 3}, api.ErrArg},
		{[]api.Field{f, low}, []uint64{8, 1}, api.ErrRange},
		{[]api.Field{f, low}, []uint64{1, 16}, api.ErrRange},
		{[]api.Field{f, low}, []uint64{7, wholeWord}, api.ErrRange},
		{[]api.Field{{At: 63, Wide: 1}}, []uint64{2}, api.ErrRange},
		{[]api.Field{{At: 1, Wide: 63}}, []uint64{1 << 63}, api.ErrRange},
	}
	for _, c := range cases {
		if w, e := bits.Pack(c.l, c.v...); e != c.want || w != 0 {
			t.Errorf("Pack(%v, %v): %d %d, not 0 %d", c.l, c.v, w, e, c.want)
		}
	}
	for _, n := range noFields() {
		if w, e := bits.Pack([]api.Field{f, n}, 1, 0); e != api.ErrField || w != 0 {
			t.Errorf("Pack with %v: %d %d", n, w, e)
		}
	}
}

// P1.2: Split tells what the word has in each field, in the order of the fields.
func TestSplit(t *testing.T) {
	l := []api.Field{{At: 60, Wide: 4}, {At: 0, Wide: 1}, {At: 7, Wide: 40}, {At: 1, Wide: 6}}
	for _, w := range words() {
		bit := bitsOf(w)
		var want []uint64
		for _, f := range l {
			want = append(want, sum(bit[f.At:f.At+f.Wide]))
		}
		if v, e := bits.Split(w, l...); e != api.OK || !slices.Equal(v, want) {
			t.Errorf("Split(%d): %v %d, not %v", w, v, e, want)
		}
	}
	if v, e := bits.Split(90); e != api.OK || len(v) != 0 {
		t.Errorf("Split by none: %v %d", v, e)
	}
	for _, n := range noFields() {
		if v, e := bits.Split(90, l[0], n); e != api.ErrField || len(v) != 0 {
			t.Errorf("Split with %v: %v %d", n, v, e)
		}
	}
	if v, e := bits.Split(90, l[0], l[1], l[0]); e != api.ErrField || len(v) != 0 {
		t.Errorf("Split by a field twice: %v %d", v, e)
	}
}

// P1.1 and P1.2: what is handed in stays as it is, the room behind it, too; what is answered is new.
func TestHandedIn(t *testing.T) {
	room := []api.Field{{At: 4, Wide: 3}, {At: 0, Wide: 4}, {At: 60, Wide: 1}}
	nums := []uint64{5, 10, 1}
	fieldsWere, numsWere := slices.Clone(room), slices.Clone(nums)
	bits.Check(room[:2]...)
	bits.Pack(room[:2], nums[:2]...)
	first, _ := bits.Split(90, room[:2]...)
	second, _ := bits.Split(90, room[:2]...)
	first[0] = 77
	if !slices.Equal(room, fieldsWere) || !slices.Equal(nums, numsWere) {
		t.Errorf("changed: %v %v", room, nums)
	}
	if !slices.Equal(second, []uint64{5, 10}) {
		t.Errorf("Split shares what it answers: %v", second)
	}
}

// P1.6: what was set is there, whatever was set elsewhere, apart.
func TestSetApart(t *testing.T) {
	l := []api.Field{{At: 9, Wide: 3}, {At: 0, Wide: 9}, {At: 12, Wide: 51}, {At: 63, Wide: 1}}
	for _, w := range words() {
		for i, f := range l {
			v := sum(bitsOf(w)[:f.Wide])
			now, e := bits.Set(w, f, v)
			if e != api.OK {
				t.Fatalf("Set(%d, %v, %d): %d", w, f, v, e)
			}
			for j, g := range l {
				for _, u := range []uint64{0, 1, sum(slices.Repeat([]uint64{1}, g.Wide))} {
					next, e := bits.Set(now, g, u)
					if i != j && e == api.OK {
						now = next
					}
				}
			}
			if got, e := bits.Get(now, f); e != api.OK || got != v {
				t.Errorf("set %d at %v of %d, got %d %d", v, f, w, got, e)
			}
		}
	}
}

// P1.6: Split of Pack are the numbers.
func TestSplitOfPack(t *testing.T) {
	l := []api.Field{{At: 16, Wide: 8}, {At: 0, Wide: 2}, {At: 8, Wide: 3}, {At: 40, Wide: 24}}
	for _, w := range words() {
		var v []uint64
		for i, f := range l {
			v = append(v, sum(bitsOf(w)[i:i+f.Wide]))
		}
		packed, e := bits.Pack(l, v...)
		if e != api.OK {
			t.Fatalf("Pack(%v): %d", v, e)
		}
		if got, e := bits.Split(packed, l...); e != api.OK || !slices.Equal(got, v) {
			t.Errorf("Split of Pack(%v): %v %d", v, got, e)
		}
	}
}
