// Package num is layer 1: numbers of few bits. See doc/01-num.md.
package num

// wide is how many bits the numbers of Bits and Put have.
const wide = 64

// Whole are kinds of whole numbers. (P1.1)
type Whole interface {
	~int8 | ~int16 | ~int32 | ~int64 | ~int | ~uint8 | ~uint16 | ~uint32 | ~uint64
}

// Fit: a number as one of another kind; false: it does not fit. (P1.1)
//
// What comes back may be x though y is another number: between kinds of as many bits the conversions undo each other. Then just one of the two is below 0.
func Fit[B, A Whole](x A) (B, bool) {
	y := B(x)
	if A(y) != x || (y < 0) != (x < 0) {
		return 0, false
	}
	return y, true
}

// Bits: so many bits of a number, from one on; false: there are not so many. (P1.2)
func Bits(x uint64, from, n int) (uint64, bool) {
	if !within(from, n) {
		return 0, false
	}
	return x >> from & lowest(n), true
}

// Put: with so many of its bits, from one on, set to a number's. (P1.2)
func Put(x uint64, from, n int, v uint64) (uint64, bool) {
	if !within(from, n) || v > lowest(n) {
		return 0, false
	}
	return x&^(lowest(n)<<from) | v<<from, true
}

// within: are there n bits from one on? from is held against a difference, for from + n may be too great for an int.
func within(from, n int) bool {
	return 0 <= from && 0 <= n && n <= wide && from <= wide-n
}

// lowest: the number whose n lowest bits alone are set. All of them too: 1 << 64 is 0, and one less has every bit.
func lowest(n int) uint64 {
	return uint64(1)<<n - 1
}

// Turn: turned left by so many bits. (P1.3)
//
// n & 31 is n modulo 32 below 0 too, where n % 32 is not.
func Turn(x uint32, n int) uint32 {
	left := n & 31
	return x<<left | x>>(32-left)
}

// Zigzag: a number with a sign as one without; Zagzig: the reverse. (P1.4)
//
// x >> 63 is -1 below 0 and 0 else: -2 x - 1 is 2 x with every bit the other way, so nothing is too great on the way.
func Zigzag(x int64) uint64 {
	return uint64(x<<1) ^ uint64(x>>63)
}

// Zagzig: likewise.
func Zagzig(x uint64) int64 {
	return int64(x>>1) ^ -int64(x&1)
}
