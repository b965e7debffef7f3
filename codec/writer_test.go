package codec_test

import (
	"bytes"
	"encoding/binary"
	"math"
	"math/big"
	"strings"
	"testing"

	"towpath/api"
	"towpath/codec"
)

// put: the bytes of a new writer behind these calls.
func put(calls func(w *codec.Writer)) []byte {
	w := codec.NewWriter()
	calls(w)
	return w.Done()
}

// edges: numbers at which a short number has one byte more, and those beside them.
func edges() []uint64 {
	out := []uint64{0, 1, 2, 300, math.MaxUint64, math.MaxUint64 - 1}
	for bit := 1; bit < 64; bit++ {
		out = append(out, 1<<bit-1, 1<<bit, 1<<bit+1)
	}
	return out
}

// groups: n as a short number, by numbers without end.
func groups(n uint64) []byte {
	rest, base, digit := new(big.Int).SetUint64(n), big.NewInt(128), new(big.Int)
	var out []byte
	for {
		rest.DivMod(rest, base, digit)
		if rest.Sign() == 0 {
			return append(out, byte(digit.Int64()))
		}
		out = append(out, byte(128+digit.Int64()))
	}
}

// signed: the Zigzag of n, by numbers without end: 2 n, or -2 n - 1 below 0.
func signed(n int64) uint64 {
	z := new(big.Int).Lsh(big.NewInt(n), 1)
	if n < 0 {
		z.Sub(z.Neg(z), big.NewInt(1))
	}
	return z.Uint64()
}

// P2.1
func TestNewWriterHasNoByte(t *testing.T) {
	a, b := codec.NewWriter(), codec.NewWriter()
	if a == nil || b == nil {
		t.Fatal("NewWriter answers none")
	}
	if got := a.Done(); len(got) != 0 {
		t.Errorf("Done of a new writer: %x", got)
	}
	a.Var(7)
	if got := b.Done(); len(got) != 0 {
		t.Errorf("one writer's bytes show in another: %x", got)
	}
	if got := codec.NewWriter().Done(); len(got) != 0 {
		t.Errorf("one writer's bytes show in a later one: %x", got)
	}
}

// P2.2
func TestWriterFixed(t *testing.T) {
	for width := 1; width <= 8; width++ {
		for _, n := range edges() {
			fits := width == 8 || n < 1<<(8*width)
			w := codec.NewWriter()
			w.Var(5)
			got := w.Fixed(n, width)
			want, answer := []byte{5}, api.ErrLimit
			if fits {
				whole := binary.LittleEndian.AppendUint64(nil, n)
				want, answer = append(want, whole[:width]...), api.OK
			}
			if got != answer || !bytes.Equal(w.Done(), want) {
				t.Errorf("Fixed(%d, %d) = %v, %x; want %v, %x", n, width, got, w.Done(), answer, want)
			}
		}
	}
}

func TestWriterFixedEdges(t *testing.T) {
	for _, c := range []struct {
		n     uint64
		width int
		code  api.Errno
		want  []byte
	}{
		{0x1234, 2, api.OK, []byte{0x34, 0x12}},
		{255, 1, api.OK, []byte{255}},
		{256, 1, api.ErrLimit, nil},
		{1<<56 - 1, 7, api.OK, []byte{255, 255, 255, 255, 255, 255, 255}},
		{1 << 56, 7, api.ErrLimit, nil},
		{1 << 56, 8, api.OK, []byte{0, 0, 0, 0, 0, 0, 0, 1}},
		{math.MaxUint64, 8, api.OK, []byte{255, 255, 255, 255, 255, 255, 255, 255}},
		{math.MaxUint64, 7, api.ErrLimit, nil},
		{0, 1, api.OK, []byte{0}},
		{0, 8, api.OK, make([]byte, 8)},
		{0, 0, api.ErrArg, nil},
		{0, 9, api.ErrArg, nil},
		{0, -1, api.ErrArg, nil},
		{0, math.MinInt, api.ErrArg, nil},
		{0, math.MaxInt, api.ErrArg, nil},
		{0, 1 << 61, api.ErrArg, nil}, // 8 times that is 0 again
		{math.MaxUint64, 0, api.ErrArg, nil},
		{math.MaxUint64, 9, api.ErrArg, nil},
	} {
		w := codec.NewWriter()
		if code := w.Fixed(c.n, c.width); code != c.code || !bytes.Equal(w.Done(), c.want) {
			t.Errorf("Fixed(%d, %d) = %v, %x; want %v, %x", c.n, c.width, code, w.Done(), c.code, c.want)
		}
		w.Var(9)
		if got := w.Done(); !bytes.Equal(got, append(c.want, 9)) {
			t.Errorf("behind Fixed(%d, %d): %x", c.n, c.width, got)
		}
	}
}

// P2.2
func TestWriterVar(t *testing.T) {
	for _, c := range []struct {
		n    uint64
		want []byte
	}{
		{0, []byte{0}},
		{127, []byte{0x7f}},
		{128, []byte{0x80, 1}},
		{300, []byte{0xac, 2}},
		{1 << 63, []byte{128, 128, 128, 128, 128, 128, 128, 128, 128, 1}},
		{1<<63 - 1, []byte{255, 255, 255, 255, 255, 255, 255, 255, 127}},
		{math.MaxUint64, []byte{255, 255, 255, 255, 255, 255, 255, 255, 255, 1}},
	} {
		if got := put(func(w *codec.Writer) { w.Var(c.n) }); !bytes.Equal(got, c.want) {
			t.Errorf("Var(%d) = %x; want %x", c.n, got, c.want)
		}
	}
	for _, n := range edges() {
		if got := put(func(w *codec.Writer) { w.Var(n) }); !bytes.Equal(got, groups(n)) {
			t.Errorf("Var(%d) = %x; want %x", n, got, groups(n))
		}
	}
}

// P2.2
func TestWriterInt(t *testing.T) {
	for _, c := range []struct {
		n    int64
		want []byte
	}{
		{0, []byte{0}},
		{-1, []byte{1}},
		{1, []byte{2}},
		{63, []byte{0x7e}},
		{-64, []byte{0x7f}},
		{64, []byte{0x80, 1}},
		{-65, []byte{0x81, 1}},
		{math.MaxInt64, []byte{254, 255, 255, 255, 255, 255, 255, 255, 255, 1}},
		{math.MinInt64, []byte{255, 255, 255, 255, 255, 255, 255, 255, 255, 1}},
	} {
		if got := put(func(w *codec.Writer) { w.Int(c.n) }); !bytes.Equal(got, c.want) {
			t.Errorf("Int(%d) = %x; want %x", c.n, got, c.want)
		}
	}
	for _, e := range edges() {
		n := int64(e)
		if got := put(func(w *codec.Writer) { w.Int(n) }); !bytes.Equal(got, groups(signed(n))) {
			t.Errorf("Int(%d) = %x", n, got)
		}
	}
}

// P2.2
func TestWriterText(t *testing.T) {
	for _, s := range []string{"", "a", "ab", "\x00", "\xff\x80\x00", "\u00e9\u4e16", strings.Repeat("x", 127), strings.Repeat("y", 128), strings.Repeat("z", 70000)} {
		want := append(groups(uint64(len(s))), s...)
		if got := put(func(w *codec.Writer) { w.Text(s) }); !bytes.Equal(got, want) {
			t.Errorf("Text of %d bytes: %d bytes, want %d", len(s), len(got), len(want))
		}
	}
}

// P2.2
func TestDoneIsNewAndMoreMayFollow(t *testing.T) {
	w := codec.NewWriter()
	w.Fixed(0x0102, 2)
	w.Text("ab")
	first := w.Done()
	if !bytes.Equal(first, []byte{2, 1, 2, 'a', 'b'}) {
		t.Fatalf("Done = %x", first)
	}
	again := w.Done()
	if !bytes.Equal(again, first) {
		t.Errorf("Done asked twice: %x", again)
	}
	overwrite(first)
	if !bytes.Equal(again, []byte{2, 1, 2, 'a', 'b'}) {
		t.Errorf("two answers of Done share memory: %x", again)
	}
	w.Int(-1)
	w.Var(300)
	more := []byte{2, 1, 2, 'a', 'b', 1, 0xac, 2}
	if got := w.Done(); !bytes.Equal(got, more) {
		t.Errorf("more put behind Done: %x", got)
	}
	for range 3 {
		last := w.Done()
		overwrite(last)
		if got := w.Done(); !bytes.Equal(got, more) {
			t.Errorf("an answer written over shows: %x", got)
		}
	}
	overwrite(w.Done())
	w.Var(4)
	if got := w.Done(); !bytes.Equal(got, append(more, 4)) {
		t.Errorf("an answer written over shows behind more: %x", got)
	}
}

// TestSpareRoomIsNew: of writers of all small lengths, what is written into an answer's spare room does not show, nor what the writer puts later in that room.
func TestSpareRoomIsNew(t *testing.T) {
	for size := range 70 {
		w := codec.NewWriter()
		for range size {
			w.Var(1)
		}
		a, b := w.Done(), w.Done()
		overwrite(a)
		w.Var(2)
		room := b[:cap(b)]
		for i, x := range room[len(b):] {
			if x != 0 {
				t.Errorf("size %d: spare byte %d is %d", size, i, x)
			}
		}
		want := append(bytes.Repeat([]byte{1}, size), 2)
		if got := w.Done(); !bytes.Equal(got, want) || !bytes.Equal(b, want[:size]) {
			t.Errorf("size %d: %x, %x", size, got, b)
		}
	}
}

// overwrite fills a list and its spare room.
func overwrite(b []byte) {
	b = b[:cap(b)]
	for i := range b {
		b[i] = 0xee
	}
}

// R3
func TestWriterThatIsNotThere(t *testing.T) {
	for name, w := range map[string]*codec.Writer{"nil": nil, "zero": {}} {
		for _, c := range []struct {
			n     uint64
			width int
		}{{1, 1}, {256, 1}, {0, 9}, {0, -1}} {
			if code := w.Fixed(c.n, c.width); code != api.ErrNil {
				t.Errorf("%s: Fixed(%d, %d) = %v", name, c.n, c.width, code)
			}
		}
		w.Var(1)
		w.Int(-1)
		w.Text("a")
		if got := w.Done(); len(got) != 0 {
			t.Errorf("%s: Done = %x", name, got)
		}
		if code := w.Fixed(1, 1); code != api.ErrNil {
			t.Errorf("%s: Fixed behind what was put = %v", name, code)
		}
	}
}
