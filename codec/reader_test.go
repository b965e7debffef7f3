package codec_test

import (
	"bytes"
	"encoding/binary"
	"math"
	"math/rand"
	"strings"
	"testing"

	"towpath/api"
	"towpath/codec"
)

// nines: nine bytes ff, and one more.
func nines(last byte) []byte {
	return append(bytes.Repeat([]byte{0xff}, 9), last)
}

// numberOf: what Var takes of b, how many bytes that is, and what is wrong: the library's short numbers, but those with more bytes than they want.
func numberOf(b []byte) (uint64, int, api.Errno) {
	for i, x := range b {
		if i == 9 && x > 1 || i > 0 && x == 0 {
			return 0, 0, api.ErrForm
		}
		if x < 128 {
			n, size := binary.Uvarint(b)
			return n, size, api.OK
		}
	}
	return 0, 0, api.ErrShort
}

// isWrong: a reader that went wrong with this, and stands that far ahead of the end, stays so.
func isWrong(t *testing.T, r *codec.Reader, wrong api.Errno, left int) {
	t.Helper()
	for range 2 {
		if code, l := r.End(), r.Left(); code != wrong || l != left {
			t.Errorf("End, Left = %v, %d; want %v, %d", code, l, wrong, left)
		}
		a, b, c, d := r.Fixed(1), r.Var(), r.Int(), r.Text(9)
		if a != 0 || b != 0 || c != 0 || d != "" {
			t.Errorf("behind what went wrong: %d, %d, %d, %q", a, b, c, d)
		}
		a, d = r.Fixed(-1), r.Text(-1)
		if a != 0 || d != "" {
			t.Errorf("behind what went wrong: %d, %q", a, d)
		}
	}
	if code, l := r.End(), r.Left(); code != wrong || l != left {
		t.Errorf("at last: End, Left = %v, %d; want %v, %d", code, l, wrong, left)
	}
}

// P2.3
func TestNewReader(t *testing.T) {
	b := make([]byte, 3, 16)
	copy(b, []byte{0xac, 2, 5})
	room := b[:cap(b)]
	room[3] = 77
	r, other := codec.NewReader(b), codec.NewReader(b)
	if r == nil || r.Left() != 3 {
		t.Fatal("a new reader does not stand ahead of the first byte")
	}
	overwrite(b)
	if n, left := r.Var(), r.Left(); n != 300 || left != 1 {
		t.Errorf("what is done to b later shows: %d, %d", n, left)
	}
	overwrite(b)
	if n, code := r.Fixed(1), r.End(); n != 5 || code != api.OK {
		t.Errorf("what is done to b later shows: %d, %v", n, code)
	}
	if n := other.Left(); n != 3 {
		t.Errorf("one reader goes on with another: %d", n)
	}
	if r.Fixed(1); r.End() != api.ErrShort {
		t.Errorf("the spare room of b was read: %v", r.End())
	}
	for i, none := range [][]byte{nil, {}} {
		r := codec.NewReader(none)
		if left, code := r.Left(), r.End(); left != 0 || code != api.OK {
			t.Errorf("%d: of no bytes: %d, %v", i, left, code)
		}
	}
}

// R4
func TestReaderChangesNothing(t *testing.T) {
	whole := []byte{2, 'a', 'b', 1, 9, 9, 9}
	b := append([]byte(nil), whole...)
	r := codec.NewReader(b[:4])
	s := r.Text(2)
	r.Int()
	r.Fixed(3)
	if !bytes.Equal(b, whole) {
		t.Errorf("the bytes were changed: %x", b)
	}
	overwrite(b)
	if s != "ab" {
		t.Errorf("the text shares memory: %q", s)
	}
}

// P2.4
func TestReaderFixed(t *testing.T) {
	b := []byte{0x81, 0x92, 0xa3, 0xb4, 0xc5, 0xd6, 0xe7, 0xf8}
	for width := 1; width <= 8; width++ {
		for left := 0; left <= 8; left++ {
			r := codec.NewReader(b[:left])
			n := r.Fixed(width)
			if left < width {
				if n != 0 {
					t.Errorf("Fixed(%d) of %d bytes = %x", width, left, n)
				}
				isWrong(t, r, api.ErrShort, left)
				continue
			}
			var want [8]byte
			copy(want[:], b[:width])
			if n != binary.LittleEndian.Uint64(want[:]) || r.Left() != left-width {
				t.Errorf("Fixed(%d) of %d bytes = %x, %d left", width, left, n, r.Left())
			}
		}
	}
	for _, width := range []int{0, 9, -1, math.MinInt, math.MaxInt} {
		for _, some := range [][]byte{b, nil} {
			r := codec.NewReader(some)
			if n := r.Fixed(width); n != 0 {
				t.Errorf("Fixed(%d) = %x", width, n)
			}
			isWrong(t, r, api.ErrArg, len(some))
		}
	}
}

// P2.4
func TestReaderVar(t *testing.T) {
	for _, c := range []struct {
		b     []byte
		n     uint64
		wrong api.Errno
		left  int
	}{
		{nil, 0, api.ErrShort, 0},
		{[]byte{0}, 0, api.OK, 0},
		{[]byte{0, 0}, 0, api.OK, 1},
		{[]byte{127}, 127, api.OK, 0},
		{[]byte{0x80}, 0, api.ErrShort, 1},
		{[]byte{0x80, 0}, 0, api.ErrForm, 2},
		{[]byte{0x80, 0x80, 0}, 0, api.ErrForm, 3},
		{[]byte{0x80, 0, 1}, 0, api.ErrForm, 3},
		{[]byte{0xff, 0}, 0, api.ErrForm, 2},
		{[]byte{0x80, 1}, 128, api.OK, 0},
		{[]byte{0xac, 2, 5}, 300, api.OK, 1},
		{[]byte{128, 128, 128, 128, 128, 128, 128, 128, 128, 1}, 1 << 63, api.OK, 0},
		{[]byte{128, 128, 128, 128, 128, 128, 128, 128, 128, 0}, 0, api.ErrForm, 10},
		{[]byte{128, 128, 128, 128, 128, 128, 128, 128, 128}, 0, api.ErrShort, 9},
		{nines(0), 0, api.ErrForm, 10},
		{nines(1), math.MaxUint64, api.OK, 0},
		{nines(2), 0, api.ErrForm, 10},
		{nines(127), 0, api.ErrForm, 10},
		{nines(128), 0, api.ErrForm, 10}, // and not ErrShort: it is above 1
		{nines(129), 0, api.ErrForm, 10},
		{nines(255), 0, api.ErrForm, 10},
		{append(nines(1), 0), math.MaxUint64, api.OK, 1},
		{append(nines(129), 1), 0, api.ErrForm, 11},
		{bytes.Repeat([]byte{0xff}, 9), 0, api.ErrShort, 9},
		{bytes.Repeat([]byte{0xff}, 100), 0, api.ErrForm, 100},
		{append(bytes.Repeat([]byte{0xff}, 8), 127), 1<<63 - 1, api.OK, 0},
	} {
		r := codec.NewReader(c.b)
		if n := r.Var(); n != c.n || r.Left() != c.left {
			t.Errorf("Var of %x = %d, %d left; want %d, %d", c.b, n, r.Left(), c.n, c.left)
		}
		i := codec.NewReader(c.b)
		if n := i.Int(); signed(n) != c.n || i.Left() != c.left {
			t.Errorf("Int of %x = %d, %d left", c.b, n, i.Left())
		}
		if c.wrong != api.OK {
			isWrong(t, r, c.wrong, c.left)
			isWrong(t, i, c.wrong, c.left)
		}
	}
}

// TestReaderVarOfAll holds Var against numberOf: all of at most two bytes, and many longer ones.
func TestReaderVarOfAll(t *testing.T) {
	check := func(b []byte) {
		n, size, wrong := numberOf(b)
		r := codec.NewReader(b)
		got := r.Var()
		code := wrong
		if wrong == api.OK && size < len(b) {
			code = api.ErrForm
		}
		if got != n || r.Left() != len(b)-size || r.End() != code {
			t.Fatalf("Var of %x = %d, %d left, %v; want %d, %d, %v", b, got, r.Left(), r.End(), n, len(b)-size, code)
		}
	}
	for a := range 256 {
		check([]byte{byte(a)})
		for b := range 256 {
			check([]byte{byte(a), byte(b)})
		}
	}
	dice := rand.New(rand.NewSource(1))
	some := []byte{0, 1, 2, 127, 128, 129, 254, 255}
	for range 200000 {
		b := make([]byte, dice.Intn(13))
		for i := range b {
			b[i] = 128 | byte(dice.Intn(256))
			if dice.Intn(8) == 0 {
				b[i] = some[dice.Intn(len(some))]
			}
		}
		check(b)
	}
}

// P2.4
func TestReaderInt(t *testing.T) {
	for _, n := range []int64{math.MinInt64, math.MinInt64 + 1, -65, -64, -2, -1, 0, 1, 63, 64, 300, math.MaxInt64 - 1, math.MaxInt64} {
		r := codec.NewReader(append(groups(signed(n)), 3))
		if got := r.Int(); got != n || r.Left() != 1 {
			t.Errorf("Int = %d, %d left; want %d, 1", got, r.Left(), n)
		}
	}
}

// P2.4
func TestReaderText(t *testing.T) {
	long := strings.Repeat("q", 200)
	for _, c := range []struct {
		b     []byte
		most  int
		s     string
		wrong api.Errno
		left  int
	}{
		{[]byte{0}, 0, "", api.OK, 0},
		{[]byte{0}, math.MaxInt, "", api.OK, 0},
		{[]byte{0, 7}, 5, "", api.OK, 1},
		{[]byte{2, 'a', 'b'}, 2, "ab", api.OK, 0},
		{[]byte{2, 'a', 'b', 'c'}, 9, "ab", api.OK, 1},
		{[]byte{3, 0, 0xff, 0x80}, 3, "\x00\xff\x80", api.OK, 0},
		{append([]byte{0xc8, 1}, long...), 200, long, api.OK, 0},
		{append([]byte{0xc8, 1}, long...), 199, "", api.ErrLimit, 202},
		{append([]byte{0xc8, 1}, long[1:]...), 200, "", api.ErrShort, 201},
		{[]byte{2, 'a', 'b'}, 1, "", api.ErrLimit, 3},
		{[]byte{1, 'a'}, 0, "", api.ErrLimit, 2},
		{[]byte{2, 'a'}, 9, "", api.ErrShort, 2},
		{[]byte{2, 'a'}, 2, "", api.ErrShort, 2},
		{[]byte{2, 'a'}, 1, "", api.ErrLimit, 2},
		{[]byte{2}, 2, "", api.ErrShort, 1},
		{nil, 2, "", api.ErrShort, 0},
		{nil, -1, "", api.ErrArg, 0},
		{[]byte{0}, -1, "", api.ErrArg, 1},
		{[]byte{0x80, 0}, -1, "", api.ErrArg, 2},
		{[]byte{2, 'a', 'b'}, math.MinInt, "", api.ErrArg, 3},
		{[]byte{0x80, 0}, 0, "", api.ErrForm, 2},
		{[]byte{0x80}, 0, "", api.ErrShort, 1},
		{nines(1), math.MaxInt, "", api.ErrLimit, 10}, // 2^64 - 1: as an int -1
		{nines(2), math.MaxInt, "", api.ErrForm, 10},
		{groups(1 << 63), math.MaxInt, "", api.ErrLimit, 10}, // as an int -2^63
		{groups(1<<63 - 1), math.MaxInt, "", api.ErrShort, 9},
		{groups(1<<63 - 2), math.MaxInt - 2, "", api.ErrLimit, 9},
		{append(groups(1<<63-1), 'a'), math.MaxInt, "", api.ErrShort, 10},
		{append(groups(1<<32), 'a'), math.MaxInt, "", api.ErrShort, 6},
		{append(groups(1<<32+1), 'a'), 1 << 32, "", api.ErrLimit, 6},
	} {
		r := codec.NewReader(c.b)
		if s := r.Text(c.most); s != c.s || r.Left() != c.left {
			t.Errorf("Text(%d) of %x = %q, %d left; want %q, %d", c.most, c.b, s, r.Left(), c.s, c.left)
		}
		if c.wrong != api.OK {
			isWrong(t, r, c.wrong, c.left)
		}
	}
}

// TestFirstWrongStays: each thing that can go wrong, behind some that went well; what could be taken there later is not, and no later fault counts.
func TestFirstWrongStays(t *testing.T) {
	ahead := []byte{2, 'a', 'b', 0xac, 2}
	for i, c := range []struct {
		b     []byte
		fault func(r *codec.Reader) bool
		wrong api.Errno
	}{
		{[]byte{5, 6}, func(r *codec.Reader) bool { return r.Fixed(3) == 0 }, api.ErrShort},
		{[]byte{5, 6}, func(r *codec.Reader) bool { return r.Fixed(0) == 0 }, api.ErrArg},
		{[]byte{0x80, 0}, func(r *codec.Reader) bool { return r.Var() == 0 }, api.ErrForm},
		{[]byte{0xff}, func(r *codec.Reader) bool { return r.Int() == 0 }, api.ErrShort},
		{[]byte{2, 'a', 'b'}, func(r *codec.Reader) bool { return r.Text(1) == "" }, api.ErrLimit},
		{[]byte{3, 'a', 'b'}, func(r *codec.Reader) bool { return r.Text(3) == "" }, api.ErrShort},
		{[]byte{3, 'a', 'b'}, func(r *codec.Reader) bool { return r.Text(-3) == "" }, api.ErrArg},
	} {
		r := codec.NewReader(append(append([]byte(nil), ahead...), c.b...))
		if s, n := r.Text(2), r.Var(); s != "ab" || n != 300 {
			t.Fatalf("%d: %q, %d", i, s, n)
		}
		if !c.fault(r) {
			t.Errorf("%d: no zero value", i)
		}
		isWrong(t, r, c.wrong, len(c.b))
	}
}

// P2.5
func TestLeftAndEnd(t *testing.T) {
	r := codec.NewReader([]byte{1, 0x80, 1, 1, 'x', 2})
	for i, left := range []int{6, 5, 3, 1} {
		for range 2 {
			if l, code := r.Left(), r.End(); l != left || code != api.ErrForm {
				t.Errorf("%d: Left, End = %d, %v; want %d, ErrForm", i, l, code, left)
			}
		}
		switch i {
		case 0:
			if n := r.Fixed(1); n != 1 {
				t.Errorf("Fixed behind End = %d", n)
			}
		case 1:
			if n := r.Int(); n != 64 {
				t.Errorf("Int behind End = %d", n)
			}
		case 2:
			if s := r.Text(1); s != "x" {
				t.Errorf("Text behind End = %q", s)
			}
		case 3:
			if n := r.Var(); n != 2 {
				t.Errorf("Var behind End = %d", n)
			}
		}
	}
	for range 2 {
		if l, code := r.Left(), r.End(); l != 0 || code != api.OK {
			t.Errorf("at the end: %d, %v", l, code)
		}
	}
	if n := r.Var(); n != 0 {
		t.Errorf("behind the end: %d", n)
	}
	isWrong(t, r, api.ErrShort, 0)
}

// R3
func TestReaderThatIsNotThere(t *testing.T) {
	for name, r := range map[string]*codec.Reader{"nil": nil, "zero": {}} {
		for range 2 {
			a, b, c, d := r.Fixed(1), r.Var(), r.Int(), r.Text(1)
			if a != 0 || b != 0 || c != 0 || d != "" {
				t.Errorf("%s: %d, %d, %d, %q", name, a, b, c, d)
			}
			a, d = r.Fixed(9), r.Text(-1)
			if a != 0 || d != "" {
				t.Errorf("%s: %d, %q", name, a, d)
			}
			if left, code := r.Left(), r.End(); left != 0 || code != api.ErrNil {
				t.Errorf("%s: Left, End = %d, %v", name, left, code)
			}
		}
	}
}
