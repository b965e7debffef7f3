package num_test

import (
	"math"
	"math/big"
	"testing"

	"towpath/num"
)

// words: numbers of 32 bits whose bits tell turns apart.
func words() []uint32 {
	return []uint32{0, 1, 2, 5, 0x80000000, 0x80000001, 0x12345678, 0xdeadbeef, 0x7fffffff, 0xfffffffe, 0xffffffff}
}

// turns: by how much, at all edges.
func turns() []int {
	l := []int{math.MinInt, math.MinInt + 1, math.MinInt + 31, math.MinInt + 32, -1 << 62, -1<<32 - 1, -1 << 32, -1<<31 - 1, -1 << 31, 1<<31 - 1, 1 << 31, 1 << 32, 1<<32 + 5, 1 << 62, math.MaxInt - 32, math.MaxInt - 31, math.MaxInt - 1, math.MaxInt}
	for i := -100; i <= 100; i++ {
		l = append(l, i)
	}
	return l
}

// turned: what Turn asks, a bit at a time. Mod of a big number is never below 0.
func turned(x uint32, n int) uint32 {
	times := new(big.Int).Mod(big.NewInt(int64(n)), big.NewInt(32)).Int64()
	for range times {
		out := x >= 0x80000000
		x *= 2
		if out {
			x++
		}
	}
	return x
}

// P1.3: what is written out in the chapter, and each edge as a plain number.
func TestTurnExamples(t *testing.T) {
	for _, c := range []struct {
		x uint32
		n int
		y uint32
	}{
		{0x80000001, 1, 3},
		{1, -1, 0x80000000},
		{5, 64, 5},
		{1, math.MinInt, 1},
		{1, math.MinInt + 1, 2},
		{1, math.MaxInt, 0x80000000},
		{0x12345678, 0, 0x12345678},
		{0x12345678, 8, 0x34567812},
		{0x12345678, -8, 0x78123456},
		{0x12345678, 31, 0x091a2b3c},
		{0x12345678, 32, 0x12345678},
		{0x12345678, 33, 0x2468acf0},
		{0x12345678, -32, 0x12345678},
		{0x12345678, -33, 0x091a2b3c},
		{0, 7, 0},
		{0xffffffff, 7, 0xffffffff},
	} {
		if y := num.Turn(c.x, c.n); y != c.y {
			t.Errorf("Turn(%#x, %d) = %#x; want %#x", c.x, c.n, y, c.y)
		}
	}
}

// P1.3, R1: against a bit at a time, by numbers of all sizes.
func TestTurnEverywhere(t *testing.T) {
	for _, x := range words() {
		for _, n := range turns() {
			if y := num.Turn(x, n); y != turned(x, n) {
				t.Errorf("Turn(%#x, %d) = %#x; want %#x", x, n, y, turned(x, n))
			}
		}
	}
}

// isSum: is a + b an int?
func isSum(a, b int) bool {
	return new(big.Int).Add(big.NewInt(int64(a)), big.NewInt(int64(b))).IsInt64()
}

// P1.5: by a and then by b is by a + b; 32 more turn nothing.
func TestTurnTwice(t *testing.T) {
	for _, x := range words() {
		for _, a := range turns() {
			for _, b := range turns() {
				if isSum(a, b) && num.Turn(num.Turn(x, a), b) != num.Turn(x, a+b) {
					t.Errorf("Turn(Turn(%#x, %d), %d) is not Turn by %d", x, a, b, a+b)
				}
			}
			if isSum(a, 32) && num.Turn(x, a+32) != num.Turn(x, a) {
				t.Errorf("Turn(%#x, %d) is not Turn by %d", x, a+32, a)
			}
		}
	}
}

// zigzagged: what Zigzag asks, in numbers that have no end.
func zigzagged(x int64) uint64 {
	y := new(big.Int).Mul(big.NewInt(x), big.NewInt(2))
	if x < 0 {
		y.Neg(y).Sub(y, big.NewInt(1))
	}
	if !y.IsUint64() {
		panic("no such number: " + y.String())
	}
	return y.Uint64()
}

// P1.4: what is written out in the chapter, and the ends.
func TestZigzagExamples(t *testing.T) {
	for _, c := range []struct {
		x int64
		y uint64
	}{
		{0, 0}, {-1, 1}, {1, 2}, {-2, 3}, {2, 4}, {-3, 5},
		{1 << 31, 1 << 32}, {-1 << 31, 1<<32 - 1},
		{1 << 62, 1 << 63}, {-1 << 62, 1<<63 - 1},
		{math.MaxInt64, math.MaxUint64 - 1},
		{math.MinInt64 + 1, math.MaxUint64 - 2},
		{math.MinInt64, math.MaxUint64},
	} {
		if y := num.Zigzag(c.x); y != c.y {
			t.Errorf("Zigzag(%d) = %d; want %d", c.x, y, c.y)
		}
		if x := num.Zagzig(c.y); x != c.x {
			t.Errorf("Zagzig(%d) = %d; want %d", c.y, x, c.x)
		}
	}
}

// zigzagOne holds one number, taken with a sign and without, against P1.4 and P1.5.
func zigzagOne(t *testing.T, n uint64) {
	t.Helper()
	x := int64(n)
	if y := num.Zigzag(x); y != zigzagged(x) {
		t.Errorf("Zigzag(%d) = %d; want %d", x, y, zigzagged(x))
	}
	if back := num.Zagzig(num.Zigzag(x)); back != x {
		t.Errorf("Zagzig(Zigzag(%d)) = %d", x, back)
	}
	if z := zigzagged(num.Zagzig(n)); z != n {
		t.Errorf("Zagzig(%d) = %d, of which Zigzag is to be %d", n, num.Zagzig(n), z)
	}
	if back := num.Zigzag(num.Zagzig(n)); back != n {
		t.Errorf("Zigzag(Zagzig(%d)) = %d", n, back)
	}
}

// P1.4, P1.5, R1: around each power of two, and of the numbers near 0.
func TestZigzagEverywhere(t *testing.T) {
	for i := range 64 {
		for d := range uint64(7) {
			zigzagOne(t, uint64(1)<<i+d-3)
			zigzagOne(t, -(uint64(1)<<i + d - 3))
		}
	}
	for n := range uint64(5000) {
		zigzagOne(t, n)
		zigzagOne(t, -n)
	}
}

func FuzzTurnAndZigzag(f *testing.F) {
	f.Add(uint32(0x80000001), 1, uint64(math.MaxUint64))
	f.Add(uint32(1), math.MinInt, uint64(1<<63))
	f.Fuzz(func(t *testing.T, x uint32, n int, z uint64) {
		if y := num.Turn(x, n); y != turned(x, n) {
			t.Errorf("Turn(%#x, %d) = %#x; want %#x", x, n, y, turned(x, n))
		}
		zigzagOne(t, z)
	})
}
