package slots

import (
	"towpath/api"
	"towpath/dump"
	"towpath/sum"
)

const (
	// sign is the number by which a checkpoint's bytes begin.
	sign = 0x57504f54
	// headSize is how many bytes a head has.
	headSize = 20
	// mostGeneration is the greatest generation of a checkpoint.
	mostGeneration = 4611686018427387904
)

// head is what stands ahead of what a checkpoint says: the sign, the generation, how many bytes follow, and the sum.
type head [headSize]byte

// headOf: the head of a checkpoint of this generation, ahead of these bytes.
func headOf(generation uint64, said []byte) head {
	var h head
	put(h[0:4], sign)
	put(h[4:12], generation)
	put(h[12:16], uint64(len(said)))
	put(h[16:20], uint64(sum.More(sum.CRC(h[4:16]), said)))
	return h
}

// generation: what stands at its place, be it one or not.
func (h head) generation() uint64 {
	return number(h[4:12])
}

// put lays a number into all of these bytes, the lowest byte first.
func put(b []byte, n uint64) {
	for i := range b {
		b[i] = byte(n >> (8 * i))
	}
}

// number: of these bytes, at most eight of them, the lowest byte first.
func number(b []byte) uint64 {
	var n uint64
	for i, x := range b {
		n |= uint64(x) << (8 * i)
	}
	return n
}

// read: what the bytes of a slot say, and the generation; false: the slot is not whole.
func read(b []byte) (api.Saved, int, bool) {
	if len(b) < headSize {
		return api.Saved{}, 0, false
	}
	var h head
	copy(h[:], b)
	generation, said := h.generation(), b[headSize:]
	if generation < 1 || generation > mostGeneration {
		return api.Saved{}, 0, false
	}
	// A generation has one head ahead of these bytes: held against that, the sign, the length and the sum are all as they must be.
	if h != headOf(generation, said) {
		return api.Saved{}, 0, false
	}
	s, wrong := dump.Decode(said)
	if wrong != api.OK {
		return api.Saved{}, 0, false
	}
	return s, int(generation), true
}
