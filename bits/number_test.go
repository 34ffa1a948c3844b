package bits_test

import (
	"math"
	"math/big"
	"testing"

	"afterglow/api"
	"afterglow/bits"
)

// P1.3: Left multiplies, as long as a word has room for it.
func TestLeft(t *testing.T) {
	for _, w := range words() {
		for n := range 130 {
			exact := new(big.Int).Mul(number(w), power(n))
			want, errno := exact.Uint64(), api.OK
			if exact.Cmp(power(64)) >= 0 {
				want, errno = 0, api.ErrRange
			}
			if got, e := bits.Left(w, n); e != errno || got != want {
				t.Fatalf("Left(%d, %d): %d %d, not %d %d", w, n, got, e, want, errno)
			}
		}
	}
}

// P1.3: Left at the edges of int.
func TestLeftEdges(t *testing.T) {
	for _, n := range []int{-1, -64, math.MinInt} {
		for _, w := range []uint64{0, 1, wholeWord} {
			if got, e := bits.Left(w, n); e != api.ErrArg || got != 0 {
				t.Errorf("Left(%d, %d): %d %d", w, n, got, e)
			}
		}
	}
	if got, e := bits.Left(0, math.MaxInt); e != api.OK || got != 0 {
		t.Errorf("Left of 0: %d %d", got, e)
	}
	if got, e := bits.Left(1, math.MaxInt); e != api.ErrRange || got != 0 {
		t.Errorf("Left of 1: %d %d", got, e)
	}
}

// P1.3: Right divides.
func TestRight(t *testing.T) {
	for _, w := range words() {
		for n := range 130 {
			want := new(big.Int).Quo(number(w), power(n)).Uint64()
			if got := bits.Right(w, n); got != want {
				t.Fatalf("Right(%d, %d): %d, not %d", w, n, got, want)
			}
		}
		for _, n := range []int{-1, -64, math.MinInt} {
			if got := bits.Right(w, n); got != w {
				t.Errorf("Right(%d, %d): %d", w, n, got)
			}
		}
		if got := bits.Right(w, math.MaxInt); got != 0 {
			t.Errorf("Right(%d) by the greatest int: %d", w, got)
		}
	}
}

// P1.3 and P1.6: Turn tells the lowest bits in the other order; turned twice they are as they were.
func TestTurn(t *testing.T) {
	for _, whole := range words() {
		for n := range 65 {
			w := sum(bitsOf(whole)[:n])
			got, e := bits.Turn(w, n)
			if e != api.OK {
				t.Fatalf("Turn(%d, %d): %d", w, n, e)
			}
			for at := range 64 {
				var want uint64
				if at < n {
					want = bitOf(w, n-1-at)
				}
				if bitOf(got, at) != want {
					t.Fatalf("Turn(%d, %d): %d, bit %d", w, n, got, at)
				}
			}
			if back, e := bits.Turn(got, n); e != api.OK || back != w {
				t.Fatalf("turned twice by %d: %d, of %d: %d", n, back, w, e)
			}
		}
	}
}

// P1.3: Turn of what may not be handed in, and of what does not fit.
func TestTurnWrong(t *testing.T) {
	for _, n := range []int{-1, 65, math.MinInt, math.MaxInt} {
		for _, w := range []uint64{0, 1, wholeWord} {
			if got, e := bits.Turn(w, n); e != api.ErrArg || got != 0 {
				t.Errorf("Turn(%d, %d): %d %d", w, n, got, e)
			}
		}
	}
	for n := range 64 {
		first := power(n).Uint64()
		for _, w := range []uint64{first, first + 1, 1 << 63, wholeWord} {
			if got, e := bits.Turn(w, n); e != api.ErrRange || got != 0 {
				t.Errorf("Turn(%d, %d): %d %d", w, n, got, e)
			}
		}
	}
}

// P1.3: Log tells the highest bit.
func TestLog(t *testing.T) {
	if k := bits.Log(0); k != -1 {
		t.Errorf("Log(0): %d", k)
	}
	for n := range 64 {
		first := power(n).Uint64()
		for _, w := range []uint64{first, first + (first-1)/2, first + (first - 1)} {
			if k := bits.Log(w); k != n {
				t.Errorf("Log(%d): %d, not %d", w, k, n)
			}
		}
	}
}

// said is what the lowest n bits say, reckoned by the bits' worth.
func said(w uint64, n int) *big.Int {
	x := new(big.Int)
	for at, b := range bitsOf(w)[:n] {
		worth := new(big.Int).Mul(number(b), power(at))
		if at == n-1 {
			x.Sub(x, worth)
		} else {
			x.Add(x, worth)
		}
	}
	return x
}

// P1.4 and P1.6: Signed tells the lowest bits, whatever is above them; Unsigned of that are these bits.
func TestSigned(t *testing.T) {
	for _, w := range words() {
		for n := 1; n <= 64; n++ {
			x, e := bits.Signed(w, n)
			if e != api.OK || big.NewInt(x).Cmp(said(w, n)) != 0 {
				t.Fatalf("Signed(%d, %d): %d %d, not %s", w, n, x, e, said(w, n))
			}
			low := sum(bitsOf(w)[:n])
			if back, e := bits.Unsigned(x, n); e != api.OK || back != low {
				t.Fatalf("Unsigned(%d, %d): %d %d, not %d", x, n, back, e, low)
			}
		}
	}
}

// P1.4: Unsigned at the least and the greatest number of n bits, and one beyond each.
func TestUnsignedEdges(t *testing.T) {
	for n := 1; n <= 63; n++ {
		half := int64(power(n - 1).Uint64())
		cases := []struct {
			x     int64
			want  uint64
			errno api.Errno
		}{
			{-half - 1, 0, api.ErrRange},
			{-half, uint64(half), api.OK},
			{-1, 2*uint64(half) - 1, api.OK},
			{0, 0, api.OK},
			{half - 1, uint64(half) - 1, api.OK},
			{half, 0, api.ErrRange},
			{math.MaxInt64, 0, api.ErrRange},
			{math.MinInt64, 0, api.ErrRange},
		}
		for _, c := range cases {
			if got, e := bits.Unsigned(c.x, n); e != c.errno || got != c.want {
				t.Errorf("Unsigned(%d, %d): %d %d, not %d %d", c.x, n, got, e, c.want, c.errno)
			}
		}
	}
	if got, e := bits.Unsigned(math.MinInt64, 64); e != api.OK || got != 1<<63 {
		t.Errorf("Unsigned of the least: %d %d", got, e)
	}
	if got, e := bits.Unsigned(math.MaxInt64, 64); e != api.OK || got != 1<<63-1 {
		t.Errorf("Unsigned of the greatest: %d %d", got, e)
	}
}

// P1.4: how many bits there may not be.
func TestSignedWrong(t *testing.T) {
	for _, n := range []int{0, -1, 65, math.MinInt, math.MaxInt} {
		for _, w := range []uint64{0, 1, wholeWord} {
			if x, e := bits.Signed(w, n); e != api.ErrArg || x != 0 {
				t.Errorf("Signed(%d, %d): %d %d", w, n, x, e)
			}
			if got, e := bits.Unsigned(int64(w), n); e != api.ErrArg || got != 0 {
				t.Errorf("Unsigned(%d, %d): %d %d", int64(w), n, got, e)
			}
		}
	}
}
