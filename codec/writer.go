package codec

import (
	"towpath/api"
	"towpath/num"
)

// Writer puts things behind one another. See doc/02-codec.md.
type Writer struct {
	// made tells a writer of NewWriter from a zero struct, which counts as none.
	made bool
	put  []byte
}

// NewWriter: without a byte. (P2.1)
func NewWriter() *Writer {
	return &Writer{made: true}
}

// there: is it a writer of NewWriter?
func (w *Writer) there() bool {
	return w != nil && w.made
}

// Fixed: a number in so many bytes, the lowest first. (P2.2)
func (w *Writer) Fixed(n uint64, width int) api.Errno {
	switch {
	case !w.there():
		return api.ErrNil
	case !wideEnough(width):
		return api.ErrArg
	case n>>(8*width) != 0: // of the widest nothing is left over: n >> 64 is 0
		return api.ErrLimit
	}
	for range width {
		w.put = append(w.put, byte(n))
		n >>= 8
	}
	return api.OK
}

// Var: a number in as few bytes as it wants. (P2.2)
func (w *Writer) Var(n uint64) {
	if !w.there() {
		return
	}
	for n >= more {
		w.put = append(w.put, byte(n)|more)
		n >>= group
	}
	w.put = append(w.put, byte(n))
}

// Int: a number with a sign, likewise. (P2.2)
func (w *Writer) Int(n int64) {
	w.Var(num.Zigzag(n))
}

// Text: its length and its bytes. (P2.2)
func (w *Writer) Text(s string) {
	if !w.there() {
		return
	}
	w.Var(uint64(len(s)))
	w.put = append(w.put, s...)
}

// Done: all of them. (P2.2)
//
// A copy: what is done to the answer must not show in the next one.
func (w *Writer) Done() []byte {
	if !w.there() || len(w.put) == 0 {
		return nil
	}
	all := make([]byte, len(w.put))
	copy(all, w.put)
	return all
}
