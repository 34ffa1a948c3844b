package bits

import "afterglow/api"

const (
	textBytes = 8
	byteBits  = 8
)

// Text: P1.5.
func Text(s string) (uint64, api.Errno) {
	if len(s) > textBytes {
		return 0, api.ErrRange
	}
	var room [textBytes]byte
	var w uint64
	for i := range copy(room[:], s) {
		if room[i] == 0 {
			return 0, api.ErrArg
		}
		w |= uint64(room[i]) << (i * byteBits)
	}
	return w, api.OK
}

// Back: P1.5.
func Back(w uint64) (string, api.Errno) {
	var room [textBytes]byte
	n := 0
	for i := range textBytes {
		room[i] = byte(w >> (i * byteBits))
		if room[i] == 0 {
			continue
		}
		// There is a 0 ahead of this byte, if not all of them have counted.
		if n != i {
			return "", api.ErrArg
		}
		n++
	}
	return string(room[:n]), api.OK
}
