package bits

import "afterglow/api"

// Left: P1.3.
func Left(w uint64, n int) (uint64, api.Errno) {
	if n < 0 {
		return 0, api.ErrArg
	}
	moved := w << n
	// What is moved out at the top does not come back.
	if moved>>n != w {
		return 0, api.ErrRange
	}
	return moved, api.OK
}

// Right: P1.3.
func Right(w uint64, n int) uint64 {
	if n < 0 {
		return w
	}
	return w >> n
}

// Turn: P1.3.
func Turn(w uint64, n int) (uint64, api.Errno) {
	if n < 0 || n > wordBits {
		return 0, api.ErrArg
	}
	if !fits(w, n) {
		return 0, api.ErrRange
	}
	var turned uint64
	for at := range low(n).places {
		turned = turned<<1 | (w>>at)&1
	}
	return turned, api.OK
}

// Log: P1.3.
func Log(w uint64) int {
	k := -1
	for at := range low(wordBits).places {
		if w>>at&1 == 1 {
			k = at
		}
	}
	return k
}

// Signed: P1.4.
func Signed(w uint64, n int) (int64, api.Errno) {
	if n < 1 || n > wordBits {
		return 0, api.ErrArg
	}
	// Moved up against the top, the highest of the n bits is the sign, which the way down fills in.
	return int64(w<<(wordBits-n)) >> (wordBits - n), api.OK
}

// Unsigned: P1.4.
func Unsigned(x int64, n int) (uint64, api.Errno) {
	if n < 1 || n > wordBits {
		return 0, api.ErrArg
	}
	w := uint64(x) & mask(low(n).places)
	// A number that n bits cannot say is not the one that its lowest n bits say.
	if back, _ := Signed(w, n); back != x {
		return 0, api.ErrRange
	}
	return w, api.OK
}
