package num_test

import (
	"math"
	"testing"

	"towpath/num"
)

// samples: numbers of 64 bits whose bits tell places apart.
func samples() []uint64 {
	return []uint64{0, 1, 2, 3, 0xabcd, 1 << 31, 1 << 32, 1<<32 - 1, 1 << 62, 1 << 63, 1<<63 - 1, math.MaxUint64, math.MaxUint64 - 1, 0x123456789abcdef0, 0xfedcba9876543210, 0xaaaaaaaaaaaaaaaa, 0x5555555555555555}
}

// far: places and lengths at all edges, and such that a sum of two is too great for an int.
func far() []int {
	l := []int{math.MinInt, math.MinInt + 1, math.MinInt + 64, -1 << 62, -1 << 32, -65, -64, 1 << 31, 1 << 32, 1<<32 + 1, 1 << 62, 1<<62 + 1, math.MaxInt - 64, math.MaxInt - 63, math.MaxInt - 1, math.MaxInt}
	for i := -3; i <= 67; i++ {
		l = append(l, i)
	}
	return l
}

// there: does every bit asked for have a place below 64?
func there(from, n int) bool {
	return from >= 0 && from <= 64 && n >= 0 && n <= 64 && from+n <= 64
}

// fits: is v below 2^n?
func fits(v uint64, n int) bool {
	for i := n; i < 64; i++ {
		if v>>i&1 != 0 {
			return false
		}
	}
	return true
}

// bitByBit: what Bits asks, a bit at a time.
func bitByBit(x uint64, from, n int) (y uint64) {
	for i := range n {
		if x>>(from+i)&1 != 0 {
			y |= 1 << i
		}
	}
	return y
}

// putBitByBit: what Put asks, a bit at a time.
func putBitByBit(x uint64, from, n int, v uint64) (y uint64) {
	for i := range 64 {
		bit := x >> i & 1
		if i >= from && i < from+n {
			bit = v >> (i - from) & 1
		}
		y |= bit << i
	}
	return y
}

func checkBits(t *testing.T, x uint64, from, n int) {
	t.Helper()
	y, ok := num.Bits(x, from, n)
	want, wantOK := uint64(0), there(from, n)
	if wantOK {
		want = bitByBit(x, from, n)
	}
	if y != want || ok != wantOK {
		t.Errorf("Bits(%#x, %d, %d) = %#x, %v; want %#x, %v", x, from, n, y, ok, want, wantOK)
	}
}

func checkPut(t *testing.T, x uint64, from, n int, v uint64) {
	t.Helper()
	y, ok := num.Put(x, from, n, v)
	want, wantOK := uint64(0), there(from, n) && fits(v, n)
	if wantOK {
		want = putBitByBit(x, from, n, v)
	}
	if y != want || ok != wantOK {
		t.Errorf("Put(%#x, %d, %d, %#x) = %#x, %v; want %#x, %v", x, from, n, v, y, ok, want, wantOK)
	}
}

// P1.2: what is written out in the chapter, and each edge as a plain number.
func TestBitsExamples(t *testing.T) {
	const x = 0x123456789abcdef0
	for _, c := range []struct {
		x       uint64
		from, n int
		y       uint64
		ok      bool
	}{
		{0xabcd, 4, 8, 0xbc, true},
		{x, 0, 64, x, true},
		{1, 64, 0, 0, true},
		{1, 0, 0, 0, true},
		{math.MaxUint64, 63, 1, 1, true},
		{math.MaxUint64, 1, 63, 1<<63 - 1, true},
		{math.MaxUint64, 63, 2, 0, false},
		{math.MaxUint64, 64, 1, 0, false},
		{math.MaxUint64, 65, 0, 0, false},
		{1, 1, 64, 0, false},
		{1, 0, 65, 0, false},
		{1, -1, 2, 0, false},
		{1, -1, 0, 0, false},
		{1, 2, -1, 0, false},
		{1, 0, -1, 0, false},
		{1, 1 << 62, 1 << 62, 0, false},
		{1, math.MaxInt, math.MaxInt, 0, false},
		{1, math.MaxInt, 1, 0, false},
		{1, 1, math.MaxInt, 0, false},
		{1, math.MinInt, math.MinInt, 0, false},
		{1, math.MinInt, math.MaxInt, 0, false},
		{1, math.MaxInt, math.MinInt, 0, false},
	} {
		if y, ok := num.Bits(c.x, c.from, c.n); y != c.y || ok != c.ok {
			t.Errorf("Bits(%#x, %d, %d) = %#x, %v; want %#x, %v", c.x, c.from, c.n, y, ok, c.y, c.ok)
		}
	}
}

func TestPutExamples(t *testing.T) {
	const x = 0x123456789abcdef0
	for _, c := range []struct {
		x       uint64
		from, n int
		v, y    uint64
		ok      bool
	}{
		{0xabcd, 4, 8, 0x12, 0xa12d, true},
		{0, 0, 64, x, x, true},
		{x, 0, 64, 0, 0, true},
		{0, 4, 4, 15, 0xf0, true},
		{0, 4, 4, 16, 0, false},
		{math.MaxUint64, 4, 4, 0, 0xffffffffffffff0f, true},
		{x, 7, 0, 0, x, true},
		{x, 64, 0, 0, x, true},
		{x, 0, 0, 1, 0, false},
		{x, 64, 0, 1, 0, false},
		{0, 63, 1, 1, 1 << 63, true},
		{0, 63, 1, 2, 0, false},
		{0, 0, 63, 1<<63 - 1, 1<<63 - 1, true},
		{0, 0, 63, 1 << 63, 0, false},
		{x, 64, 1, 0, 0, false},
		{x, 1, 64, 0, 0, false},
		{x, -1, 2, 0, 0, false},
		{x, 2, -1, 0, 0, false},
		{x, 1 << 62, 1 << 62, 0, 0, false},
		{x, math.MaxInt, math.MaxInt, 0, 0, false},
		{x, math.MinInt, math.MinInt, 0, 0, false},
	} {
		if y, ok := num.Put(c.x, c.from, c.n, c.v); y != c.y || ok != c.ok {
			t.Errorf("Put(%#x, %d, %d, %#x) = %#x, %v; want %#x, %v", c.x, c.from, c.n, c.v, y, ok, c.y, c.ok)
		}
	}
}

// P1.2, R1: Bits and Put against a bit at a time, at all places and far beyond them.
func TestBitsEverywhere(t *testing.T) {
	for _, from := range far() {
		for _, n := range far() {
			for _, x := range samples() {
				checkBits(t, x, from, n)
				for _, v := range samples() {
					checkPut(t, x, from, n, v)
				}
			}
		}
	}
}

// P1.2: v at 2^n, one less and one more, at each place that has n bits.
func TestPutAtTwoToTheN(t *testing.T) {
	for n := 0; n <= 64; n++ {
		for from := 0; from+n <= 64; from++ {
			for _, x := range []uint64{0, math.MaxUint64, 0x123456789abcdef0} {
				checkPut(t, x, from, n, uint64(1)<<n-1)
				if n < 64 {
					checkPut(t, x, from, n, uint64(1)<<n)
					checkPut(t, x, from, n, uint64(1)<<n+1)
				}
			}
		}
	}
}

// P1.5: Bits of Put of the same place are what was put, all other bits stay.
func TestBitsOfPut(t *testing.T) {
	for n := 0; n <= 64; n++ {
		for from := 0; from+n <= 64; from++ {
			for _, x := range samples() {
				for _, s := range samples() {
					bitsOfPut(t, x, from, n, s)
				}
			}
		}
	}
}

func bitsOfPut(t *testing.T, x uint64, from, n int, sample uint64) {
	t.Helper()
	v, _ := num.Bits(sample, 0, n)
	y, ok := num.Put(x, from, n, v)
	if !ok {
		t.Fatalf("Put(%#x, %d, %d, %#x): false", x, from, n, v)
	}
	if got, ok := num.Bits(y, from, n); got != v || !ok {
		t.Errorf("Bits of Put(%#x, %d, %d, %#x) = %#x, %v", x, from, n, v, got, ok)
	}
	for i := range 64 {
		if (i < from || i >= from+n) && y>>i&1 != x>>i&1 {
			t.Errorf("Put(%#x, %d, %d, %#x) = %#x: bit %d did not stay", x, from, n, v, y, i)
		}
	}
}

func FuzzBits(f *testing.F) {
	f.Add(uint64(0xabcd), 4, 8, uint64(0x12))
	f.Add(uint64(1), 1<<62, 1<<62, uint64(0))
	f.Add(uint64(1), math.MaxInt, math.MinInt, uint64(math.MaxUint64))
	f.Fuzz(func(t *testing.T, x uint64, from, n int, v uint64) {
		checkBits(t, x, from, n)
		checkPut(t, x, from, n, v)
		// The places that there are, too: few that are tried at random are among them.
		from, n = from&63, n&63
		checkBits(t, x, from, n)
		checkPut(t, x, from, n, v)
		checkPut(t, x, from, n, v>>(64-n))
	})
}
