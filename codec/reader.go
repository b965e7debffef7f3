package codec

import (
	"towpath/api"
	"towpath/num"
)

// Reader takes things one behind the other. See doc/02-codec.md.
type Reader struct {
	// made tells a reader of NewReader from a zero struct, which counts as none.
	made bool
	// ahead is what the reader has not gone through.
	ahead []byte
	// wrong is the first thing that went wrong.
	wrong api.Errno
}

// NewReader: of some bytes. (P2.3)
//
// Of a copy: what is done to b later must not show.
func NewReader(b []byte) *Reader {
	ahead := make([]byte, len(b))
	copy(ahead, b)
	return &Reader{made: true, ahead: ahead}
}

// there: is it a reader of NewReader?
func (r *Reader) there() bool {
	return r != nil && r.made
}

// take is the gate that all a reader takes goes through: next tells the thing that stands first in some bytes, and of how many bytes it is, or what is wrong with it. The reader goes on here alone, by the whole thing or not at all.
func take[T any](r *Reader, next func(ahead []byte) (T, int, api.Errno)) T {
	var none T
	if !r.there() || r.wrong != api.OK {
		return none
	}
	thing, size, wrong := next(r.ahead)
	if wrong != api.OK {
		r.wrong = wrong
		return none
	}
	r.ahead = r.ahead[size:len(r.ahead):len(r.ahead)]
	return thing
}

// Fixed: the next number of so many bytes. (P2.4)
func (r *Reader) Fixed(width int) uint64 {
	return take(r, func(ahead []byte) (uint64, int, api.Errno) {
		if !wideEnough(width) {
			return 0, 0, api.ErrArg
		}
		if width > len(ahead) {
			return 0, 0, api.ErrShort
		}
		var n uint64
		for i, b := range ahead[:width] {
			n |= uint64(b) << (8 * i)
		}
		return n, width, api.OK
	})
}

// Var: the next number. (P2.4)
func (r *Reader) Var() uint64 {
	return take(r, func(ahead []byte) (uint64, int, api.Errno) {
		return short(ahead)
	})
}

// Int: the next number with a sign. (P2.4)
func (r *Reader) Int() int64 {
	return take(r, func(ahead []byte) (int64, int, api.Errno) {
		n, size, wrong := short(ahead)
		return num.Zagzig(n), size, wrong
	})
}

// Text: the next text, of at most so many bytes. (P2.4)
func (r *Reader) Text(most int) string {
	return take(r, func(ahead []byte) (string, int, api.Errno) {
		if most < 0 {
			return "", 0, api.ErrArg
		}
		length, begin, wrong := short(ahead)
		switch {
		case wrong != api.OK:
			return "", 0, wrong
		case length > uint64(most):
			return "", 0, api.ErrLimit
		case length > uint64(len(ahead)-begin):
			return "", 0, api.ErrShort
		}
		end := begin + int(length) // it fits: length is at most len(ahead)
		return string(ahead[begin:end]), end, api.OK
	})
}

// short: the short number that stands first in some bytes, and how many bytes it has.
//
// A 0 that is not the first byte is refused, and a tenth one above what is left of 64 bits: so a number has no bytes but those that a writer puts.
func short(b []byte) (uint64, int, api.Errno) {
	var n uint64
	for i, x := range b {
		if i == tenth && x > tenthMost || i > 0 && x == 0 {
			return 0, 0, api.ErrForm
		}
		n |= uint64(x&^more) << (group * i)
		if x < more {
			return n, i + 1, api.OK
		}
	}
	return 0, 0, api.ErrShort
}

// Left: how many bytes are left. (P2.5)
func (r *Reader) Left() int {
	if !r.there() {
		return 0
	}
	return len(r.ahead)
}

// End: the first thing that went wrong; or bytes are left. (P2.5)
func (r *Reader) End() api.Errno {
	switch {
	case !r.there():
		return api.ErrNil
	case r.wrong != api.OK:
		return r.wrong
	case len(r.ahead) > 0:
		return api.ErrForm
	}
	return api.OK
}
