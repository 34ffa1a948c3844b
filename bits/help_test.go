package bits_test

import (
	"math"
	"math/big"

	"afterglow/api"
)

const wholeWord = math.MaxUint64

// words are some of the edges, and others that follow from a short rule.
func words() []uint64 {
	l := []uint64{0, 1, 2, 3, 5, 90, 0x8000_0000, 0xffff_ffff, 1 << 32, 1<<63 - 1, 1 << 63, 1<<63 + 1, wholeWord - 1, wholeWord}
	w := uint64(1)
	for range 50 {
		w = w*6364136223846793005 + 1442695040888963407
		l = append(l, w, w>>(w&63))
	}
	return l
}

// allFields are all that there are in a word.
func allFields() []api.Field {
	var l []api.Field
	for at := range 64 {
		for wide := 1; at+wide <= 64; wide++ {
			l = append(l, api.Field{At: at, Wide: wide})
		}
	}
	return l
}

// noFields are some that are none.
func noFields() []api.Field {
	return []api.Field{
		{},
		{At: 3, Wide: 0},
		{At: 64, Wide: 0},
		{At: 3, Wide: -1},
		{At: -1, Wide: 1},
		{At: -1, Wide: 64},
		{At: 0, Wide: 65},
		{At: 1, Wide: 64},
		{At: 60, Wide: 5},
		{At: 63, Wide: 2},
		{At: 64, Wide: 1},
		{At: 65, Wide: -1},
		{At: math.MaxInt, Wide: 1},
		{At: 1, Wide: math.MaxInt},
		{At: math.MaxInt, Wide: math.MaxInt},
		{At: math.MinInt, Wide: 1},
		{At: 1, Wide: math.MinInt},
		{At: math.MinInt, Wide: math.MinInt},
		{At: math.MinInt, Wide: math.MaxInt},
	}
}

// bitOf is the bit of a word at a place, reckoned by dividing.
func bitOf(w uint64, at int) uint64 {
	for range at {
		w /= 2
	}
	return w % 2
}

// sum is the number that has these bits, the lowest first.
func sum(bit []uint64) uint64 {
	var w uint64
	for i := len(bit) - 1; i >= 0; i-- {
		w = w*2 + bit[i]
	}
	return w
}

// bitsOf are the bits of a word, the lowest first.
func bitsOf(w uint64) []uint64 {
	l := make([]uint64, 64)
	for at := range l {
		l[at] = w % 2
		w /= 2
	}
	return l
}

// power is 2 to the power n.
func power(n int) *big.Int {
	return new(big.Int).Exp(big.NewInt(2), big.NewInt(int64(n)), nil)
}

// number is a word as a number without bounds.
func number(w uint64) *big.Int {
	return new(big.Int).SetUint64(w)
}
