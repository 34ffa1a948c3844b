package bits_test

import (
	"strings"
	"testing"

	"afterglow/api"
	"afterglow/bits"
)

// P1.5 and P1.6: a text's word has its first byte lowest; Back of it is the text.
func TestText(t *testing.T) {
	cases := []struct {
		s    string
		want uint64
	}{
		{"", 0},
		{"a", 97},
		{"ab", 25185},
		{"\x01", 1},
		{"\xff", 255},
		{"12345678", 0x3837363534333231},
		{"/a/b", 0x622f612f},
		{strings.Repeat("\xff", 8), wholeWord},
		{strings.Repeat("\xff", 7), wholeWord / 256},
		{"\x80\xc3\xfe", 0xfec380},
		{"ä\u20ac", 0xac82e2a4c3},
	}
	for _, c := range cases {
		if w, e := bits.Text(c.s); e != api.OK || w != c.want {
			t.Errorf("Text(%q): %d %d, not %d", c.s, w, e, c.want)
		}
		if s, e := bits.Back(c.want); e != api.OK || s != c.s {
			t.Errorf("Back(%d): %q %d, not %q", c.want, s, e, c.s)
		}
	}
}

// P1.5 and P1.6: each byte but 0, at each place of a text of each length, comes back.
func TestTextBytes(t *testing.T) {
	for n := 1; n <= 8; n++ {
		for i := range n {
			for c := 1; c < 256; c++ {
				b := []byte(strings.Repeat("x", n))
				b[i] = byte(c)
				w, e := bits.Text(string(b))
				if e != api.OK || (w>>(8*i))&255 != uint64(c) {
					t.Fatalf("Text(%q): %x %d", b, w, e)
				}
				if s, e := bits.Back(w); e != api.OK || s != string(b) {
					t.Fatalf("Back of Text(%q): %q %d", b, s, e)
				}
			}
		}
	}
}

// P1.5: what is too long is told ahead of a byte that is 0.
func TestTextWrong(t *testing.T) {
	cases := []struct {
		s    string
		want api.Errno
	}{
		{"123456789", api.ErrRange},
		{strings.Repeat("x", 1000), api.ErrRange},
		{"\x0012345678", api.ErrRange},
		{strings.Repeat("\x00", 9), api.ErrRange},
		{"12345678\x00", api.ErrRange},
		{"\x00", api.ErrArg},
		{"a\x00", api.ErrArg},
		{"\x00a", api.ErrArg},
		{"a\x00b", api.ErrArg},
		{"1234567\x00", api.ErrArg},
		{strings.Repeat("\x00", 8), api.ErrArg},
	}
	for _, c := range cases {
		if w, e := bits.Text(c.s); e != c.want || w != 0 {
			t.Errorf("Text(%q): %d %d, not 0 %d", c.s, w, e, c.want)
		}
	}
}

// P1.5: a word that has a byte 0 ahead of another one is no text's.
func TestBackWrong(t *testing.T) {
	for hole := range 7 {
		for at := hole + 1; at < 8; at++ {
			under := uint64(1)<<(8*hole) - 1
			for _, w := range []uint64{1 << (8 * at), under + 1<<(8*at), under + 255<<(8*at), wholeWord - 255<<(8*hole)} {
				if s, e := bits.Back(w); e != api.ErrArg || s != "" {
					t.Errorf("Back(%x): %q %d", w, s, e)
				}
			}
		}
	}
}

// P1.1 to P1.5: the chapter's examples.
func TestExamples(t *testing.T) {
	f := api.Field{At: 4, Wide: 3}
	got, _ := bits.Get(90, f)
	set, _ := bits.Set(0, f, 5)
	packed, _ := bits.Pack([]api.Field{f, {At: 0, Wide: 4}}, 5, 10)
	left, _ := bits.Left(1, 63)
	turned, _ := bits.Turn(6, 4)
	signed, _ := bits.Signed(12, 4)
	unsigned, _ := bits.Unsigned(-4, 4)
	word, _ := bits.Text("ab")
	text, _ := bits.Back(25185)
	if got != 5 || set != 80 || packed != 90 || left != 1<<63 || turned != 6 {
		t.Errorf("words: %d %d %d %d %d", got, set, packed, left, turned)
	}
	if signed != -4 || unsigned != 12 || word != 25185 || text != "ab" || bits.Right(9, 2) != 2 || bits.Log(9) != 3 {
		t.Errorf("numbers and texts: %d %d %d %q", signed, unsigned, word, text)
	}
	_, set8 := bits.Set(0, f, 8)
	_, left2 := bits.Left(2, 63)
	_, unsigned8 := bits.Unsigned(8, 4)
	_, back := bits.Back(24832)
	if set8 != api.ErrRange || bits.Check(f, api.Field{At: 6, Wide: 1}) != api.ErrField || left2 != api.ErrRange || unsigned8 != api.ErrRange || back != api.ErrArg {
		t.Errorf("errors: %d %d %d %d", set8, left2, unsigned8, back)
	}
}
