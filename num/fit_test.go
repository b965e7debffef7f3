package num_test

import (
	"math"
	"math/big"
	"testing"

	"towpath/num"
)

// Kinds made of Go's.
type (
	tiny    int8
	short   int16
	middle  int32
	long    int64
	plain   int
	octet   uint8
	word    uint16
	double  uint32
	quad    uint64
	further octet
)

// span is what a kind is like: its name, its least and its greatest number.
type span struct {
	name        string
	least, most *big.Int
}

func signed(name string, bits uint) span {
	top := new(big.Int).Lsh(big.NewInt(1), bits-1)
	return span{name, new(big.Int).Neg(top), new(big.Int).Sub(top, big.NewInt(1))}
}

func unsigned(name string, bits uint) span {
	top := new(big.Int).Lsh(big.NewInt(1), bits)
	return span{name, new(big.Int), new(big.Int).Sub(top, big.NewInt(1))}
}

func (s span) has(x *big.Int) bool { return s.least.Cmp(x) <= 0 && x.Cmp(s.most) <= 0 }

// of: the number that the big one is, which must be one of the kind; exact: the reverse. Neither of them leans on Fit.
func of[A num.Whole](x *big.Int) A {
	if x.Sign() < 0 {
		return A(x.Int64())
	}
	return A(x.Uint64())
}

func exact[A num.Whole](x A) *big.Int {
	if x < 0 {
		return big.NewInt(int64(x))
	}
	return new(big.Int).SetUint64(uint64(x))
}

// edges: the numbers at and around each end of each kind, those around 0, and some between.
func edges() []*big.Int {
	var l []*big.Int
	for _, bits := range []uint{7, 8, 15, 16, 31, 32, 63, 64} {
		end := new(big.Int).Lsh(big.NewInt(1), bits)
		for d := int64(-2); d <= 2; d++ {
			x := new(big.Int).Add(end, big.NewInt(d))
			l = append(l, x, new(big.Int).Neg(x))
		}
	}
	for _, x := range []int64{0, 1, -1, 2, -2, 100, -100, 1000, -1000, 123456, -123456, 1 << 40, -1 << 40} {
		l = append(l, big.NewInt(x))
	}
	return l
}

// fitsOne holds Fit from A to B against the spans, for one number, and takes what fits the other way.
func fitsOne[B, A num.Whole](t *testing.T, from, to span, x A) {
	t.Helper()
	y, ok := num.Fit[B](x)
	whole := exact(x)
	if to.has(whole) {
		if !ok || exact(y).Cmp(whole) != 0 {
			t.Errorf("Fit[%s] of %s %d = %d, %v; want %s, true", to.name, from.name, x, y, ok, whole)
		}
		if back, ok := num.Fit[A](y); back != x || !ok {
			t.Errorf("Fit[%s] of %s %d = %d, %v; want %d, true", from.name, to.name, y, back, ok, x)
		}
	} else if ok || y != 0 {
		t.Errorf("Fit[%s] of %s %d = %d, %v; want 0, false", to.name, from.name, x, y, ok)
	}
}

func fitsAll[B, A num.Whole](t *testing.T, from, to span) {
	t.Helper()
	for _, x := range edges() {
		if from.has(x) {
			fitsOne[B](t, from, to, of[A](x))
		}
	}
}

func fitsFrom[A num.Whole](t *testing.T, from span) {
	t.Helper()
	fitsAll[int8, A](t, from, signed("int8", 8))
	fitsAll[int16, A](t, from, signed("int16", 16))
	fitsAll[int32, A](t, from, signed("int32", 32))
	fitsAll[int64, A](t, from, signed("int64", 64))
	fitsAll[int, A](t, from, signed("int", 64))
	fitsAll[uint8, A](t, from, unsigned("uint8", 8))
	fitsAll[uint16, A](t, from, unsigned("uint16", 16))
	fitsAll[uint32, A](t, from, unsigned("uint32", 32))
	fitsAll[uint64, A](t, from, unsigned("uint64", 64))
	fitsAll[tiny, A](t, from, signed("tiny", 8))
	fitsAll[short, A](t, from, signed("short", 16))
	fitsAll[middle, A](t, from, signed("middle", 32))
	fitsAll[long, A](t, from, signed("long", 64))
	fitsAll[plain, A](t, from, signed("plain", 64))
	fitsAll[octet, A](t, from, unsigned("octet", 8))
	fitsAll[word, A](t, from, unsigned("word", 16))
	fitsAll[double, A](t, from, unsigned("double", 32))
	fitsAll[quad, A](t, from, unsigned("quad", 64))
	fitsAll[further, A](t, from, unsigned("further", 8))
}

// P1.1, P1.5: from every kind to every kind, at all edges, and back.
func TestFitEdges(t *testing.T) {
	fitsFrom[int8](t, signed("int8", 8))
	fitsFrom[int16](t, signed("int16", 16))
	fitsFrom[int32](t, signed("int32", 32))
	fitsFrom[int64](t, signed("int64", 64))
	fitsFrom[int](t, signed("int", 64))
	fitsFrom[uint8](t, unsigned("uint8", 8))
	fitsFrom[uint16](t, unsigned("uint16", 16))
	fitsFrom[uint32](t, unsigned("uint32", 32))
	fitsFrom[uint64](t, unsigned("uint64", 64))
	fitsFrom[tiny](t, signed("tiny", 8))
	fitsFrom[short](t, signed("short", 16))
	fitsFrom[middle](t, signed("middle", 32))
	fitsFrom[long](t, signed("long", 64))
	fitsFrom[plain](t, signed("plain", 64))
	fitsFrom[octet](t, unsigned("octet", 8))
	fitsFrom[word](t, unsigned("word", 16))
	fitsFrom[double](t, unsigned("double", 32))
	fitsFrom[quad](t, unsigned("quad", 64))
	fitsFrom[further](t, unsigned("further", 8))
}

// P1.1: every number of 16 bits, with a sign and without, as one of 8 bits and as one of 16.
func TestFitSixteen(t *testing.T) {
	s, u := signed("int16", 16), unsigned("uint16", 16)
	for i := 0; i <= math.MaxUint16; i++ {
		fitsOne[int8](t, u, signed("int8", 8), uint16(i))
		fitsOne[uint8](t, u, unsigned("uint8", 8), uint16(i))
		fitsOne[int16](t, u, s, uint16(i))
		fitsOne[int8](t, s, signed("int8", 8), int16(i+math.MinInt16))
		fitsOne[uint8](t, s, unsigned("uint8", 8), int16(i+math.MinInt16))
		fitsOne[uint16](t, s, u, int16(i+math.MinInt16))
	}
}

// P1.1: what is written out in the chapter, and the ends of the kinds, as plain numbers.
func TestFitExamples(t *testing.T) {
	for _, c := range []struct {
		x  int
		y  int8
		ok bool
	}{{127, 127, true}, {128, 0, false}, {-128, -128, true}, {-129, 0, false}, {0, 0, true}, {-1, -1, true}, {256, 0, false}, {math.MaxInt, 0, false}, {math.MinInt, 0, false}} {
		if y, ok := num.Fit[int8](c.x); y != c.y || ok != c.ok {
			t.Errorf("Fit[int8](%d) = %d, %v; want %d, %v", c.x, y, ok, c.y, c.ok)
		}
	}
	if y, ok := num.Fit[uint64](int64(-1)); y != 0 || ok {
		t.Errorf("Fit[uint64](-1) = %d, %v", y, ok)
	}
	if y, ok := num.Fit[uint64](int64(math.MinInt64)); y != 0 || ok {
		t.Errorf("Fit[uint64](-2^63) = %d, %v", y, ok)
	}
	if y, ok := num.Fit[int64](uint64(1 << 63)); y != 0 || ok {
		t.Errorf("Fit[int64](2^63) = %d, %v", y, ok)
	}
	if y, ok := num.Fit[int64](uint64(1<<63 - 1)); y != 1<<63-1 || !ok {
		t.Errorf("Fit[int64](2^63 - 1) = %d, %v", y, ok)
	}
	if y, ok := num.Fit[uint8](uint64(255)); y != 255 || !ok {
		t.Errorf("Fit[uint8](255) = %d, %v", y, ok)
	}
	if y, ok := num.Fit[uint8](uint64(256)); y != 0 || ok {
		t.Errorf("Fit[uint8](256) = %d, %v", y, ok)
	}
	if y, ok := num.Fit[octet](tiny(-1)); y != 0 || ok {
		t.Errorf("Fit[octet](tiny -1) = %d, %v", y, ok)
	}
	if y, ok := num.Fit[tiny](octet(127)); y != 127 || !ok {
		t.Errorf("Fit[tiny](octet 127) = %d, %v", y, ok)
	}
}

// P1.5: what fits comes back, for any number at all.
func FuzzFit(f *testing.F) {
	for _, x := range edges() {
		f.Add(x.Int64())
	}
	f.Fuzz(func(t *testing.T, x int64) {
		s, u := signed("int64", 64), unsigned("uint64", 64)
		fitsOne[int8](t, s, signed("int8", 8), x)
		fitsOne[int32](t, s, signed("int32", 32), x)
		fitsOne[uint16](t, s, unsigned("uint16", 16), x)
		fitsOne[uint32](t, s, unsigned("uint32", 32), x)
		fitsOne[uint64](t, s, u, x)
		fitsOne[int64](t, u, s, uint64(x))
		fitsOne[uint32](t, u, unsigned("uint32", 32), uint64(x))
	})
}
