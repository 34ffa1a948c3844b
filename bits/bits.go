// Package bits is layer 1: parts of words, and numbers and texts as words. See 01-bits.md.
package bits

import (
	"iter"

	"afterglow/api"
)

const wordBits = 64

// part is a field, with what is asked of one.
type part struct{ api.Field }

// is holds At against the room that Wide leaves, for the sum of both may pass the greatest int.
func (p part) is() bool {
	return p.Wide >= 1 && p.At >= 0 && p.At <= wordBits-p.Wide
}

// places tells the bits of the field, the lowest first.
func (p part) places(yield func(int) bool) {
	for i := range p.Wide {
		if !yield(p.At + i) {
			return
		}
	}
}

// of is what the word has in the field.
func (p part) of(w uint64) uint64 {
	return (w & mask(p.places)) >> p.At
}

// low is the lowest n bits; of none of them, too, though they are no field.
func low(n int) part {
	return part{api.Field{Wide: n}}
}

// mask is the word that has 1 at these places alone.
func mask(places iter.Seq[int]) uint64 {
	var m uint64
	for at := range places {
		m |= 1 << at
	}
	return m
}

// fits says whether v is below 2 to the power n.
func fits(v uint64, n int) bool {
	return v&^mask(low(n).places) == 0
}

// Check: P1.1.
func Check(l ...api.Field) api.Errno {
	var taken uint64
	errno := api.OK
fields:
	for _, f := range l {
		p := part{f}
		if !p.is() {
			errno = api.ErrField
			break fields
		}
		for at := range p.places {
			if taken>>at&1 == 1 {
				errno = api.ErrField
				break fields
			}
			taken |= 1 << at
		}
	}
	return errno
}

// Get: P1.1.
func Get(w uint64, f api.Field) (uint64, api.Errno) {
	if errno := Check(f); errno != api.OK {
		return 0, errno
	}
	return part{f}.of(w), api.OK
}

// Set: P1.1.
func Set(w uint64, f api.Field, v uint64) (uint64, api.Errno) {
	if errno := Check(f); errno != api.OK {
		return 0, errno
	}
	if !fits(v, f.Wide) {
		return 0, api.ErrRange
	}
	return (w &^ mask(part{f}.places)) | (v << f.At), api.OK
}

// Pack: P1.2.
func Pack(l []api.Field, v ...uint64) (uint64, api.Errno) {
	if errno := Check(l...); errno != api.OK {
		return 0, errno
	}
	if len(l) != len(v) {
		return 0, api.ErrArg
	}
	var w uint64
	for i, f := range l {
		if !fits(v[i], f.Wide) {
			return 0, api.ErrRange
		}
		w |= v[i] << f.At
	}
	return w, api.OK
}

// Split: P1.2.
func Split(w uint64, l ...api.Field) ([]uint64, api.Errno) {
	if errno := Check(l...); errno != api.OK {
		return nil, errno
	}
	v := make([]uint64, len(l))
	for i, f := range l {
		v[i] = part{f}.of(w)
	}
	return v, api.OK
}
