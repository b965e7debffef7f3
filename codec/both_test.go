package codec_test

import (
	"bytes"
	"math/rand"
	"testing"

	"towpath/api"
	"towpath/codec"
)

// thing is one that a writer puts and a reader takes.
type thing struct {
	kind, width int
	n           uint64
	s           string
}

// put puts it.
func (x thing) put(w *codec.Writer) {
	switch x.kind {
	case 0:
		w.Fixed(x.n, x.width)
	case 1:
		w.Var(x.n)
	case 2:
		w.Int(int64(x.n))
	case 3:
		w.Text(x.s)
	}
}

// taken: is it what the reader takes next?
func (x thing) taken(r *codec.Reader) bool {
	switch x.kind {
	case 0:
		return r.Fixed(x.width) == x.n
	case 1:
		return r.Var() == x.n
	case 2:
		return r.Int() == int64(x.n)
	}
	return r.Text(len(x.s)) == x.s
}

// someThing: one by the dice.
func someThing(dice *rand.Rand) thing {
	x := thing{kind: dice.Intn(4), width: 1 + dice.Intn(8), n: dice.Uint64() >> dice.Intn(64)}
	if x.kind == 0 {
		x.n >>= 64 - 8*x.width
	}
	if x.kind == 3 {
		b := make([]byte, dice.Intn(200))
		dice.Read(b)
		x.s = string(b)
	}
	return x
}

// P2.6
func TestWhatIsPutIsTaken(t *testing.T) {
	dice := rand.New(rand.NewSource(2))
	for range 2000 {
		things := make([]thing, dice.Intn(20))
		w := codec.NewWriter()
		for i := range things {
			things[i] = someThing(dice)
			things[i].put(w)
		}
		b := w.Done()
		r := codec.NewReader(b)
		for i, x := range things {
			if !x.taken(r) {
				t.Fatalf("%x: %d: not %+v", b, i, x)
			}
		}
		if code := r.End(); code != api.OK {
			t.Fatalf("%x: End = %v", b, code)
		}
		tooShort(t, things, b)
	}
}

// tooShort: of all bytes but the last, the reader misses what stood there.
func tooShort(t *testing.T, things []thing, b []byte) {
	t.Helper()
	if len(b) == 0 {
		return
	}
	r := codec.NewReader(b[:len(b)-1])
	for _, x := range things {
		x.taken(r)
	}
	if code := r.End(); code != api.ErrShort {
		t.Fatalf("%x but the last: End = %v", b, code)
	}
}

// P2.6
func TestEdgesArePutAndTaken(t *testing.T) {
	for _, n := range edges() {
		for kind := range 3 {
			x := thing{kind: kind, width: 8, n: n}
			r := codec.NewReader(put(x.put))
			if !x.taken(r) || r.End() != api.OK {
				t.Errorf("%+v: End = %v", x, r.End())
			}
		}
	}
}

// takenIsPut: the bytes that Var, Int and Text took of b are those that a writer puts of what they answered.
func takenIsPut(t *testing.T, b []byte) {
	t.Helper()
	for kind := 1; kind <= 3; kind++ {
		r, w := codec.NewReader(b), codec.NewWriter()
		switch kind {
		case 1:
			w.Var(r.Var())
		case 2:
			w.Int(r.Int())
		case 3:
			w.Text(r.Text(len(b)))
		}
		took := b[:len(b)-r.Left()]
		if len(took) > 0 && !bytes.Equal(w.Done(), took) {
			t.Fatalf("kind %d of %x: took %x, of which a writer puts %x", kind, b, took, w.Done())
		}
	}
}

// P2.6
func TestWhatIsTakenIsPut(t *testing.T) {
	for a := range 256 {
		for b := range 256 {
			takenIsPut(t, []byte{byte(a), byte(b), 0})
		}
	}
	dice := rand.New(rand.NewSource(3))
	for range 100000 {
		b := make([]byte, dice.Intn(14))
		for i := range b {
			b[i] = byte(dice.Intn(256)) | byte(dice.Intn(2)<<7)
		}
		takenIsPut(t, b)
	}
}

// P2.6
func TestNoNumberBeginsAnother(t *testing.T) {
	var all [][]byte
	for _, n := range edges() {
		all = append(all, put(func(w *codec.Writer) { w.Var(n) }))
	}
	for _, a := range all {
		for _, b := range all {
			if !bytes.Equal(a, b) && bytes.HasPrefix(b, a) {
				t.Errorf("%x begins %x", a, b)
			}
		}
	}
}

// R5: what one writer or reader is given does not show in another.
func TestSideBySide(t *testing.T) {
	a, b := codec.NewWriter(), codec.NewWriter()
	for i := range uint64(300) {
		a.Var(i)
		b.Int(-int64(i))
	}
	x, y := codec.NewReader(a.Done()), codec.NewReader(b.Done())
	for i := range uint64(300) {
		if n, m := x.Var(), y.Int(); n != i || m != -int64(i) {
			t.Fatalf("%d: %d, %d", i, n, m)
		}
	}
	if x.End() != api.OK || y.End() != api.OK {
		t.Errorf("End = %v, %v", x.End(), y.End())
	}
}

func FuzzReader(f *testing.F) {
	f.Add([]byte{0xac, 2, 5}, []byte{1, 2, 3}, 4)
	f.Add(nines(2), []byte{1}, 9)
	f.Add([]byte{2, 'a'}, []byte{3, 3}, -1)
	f.Fuzz(func(t *testing.T, b, calls []byte, size int) {
		takenIsPut(t, b)
		r := codec.NewReader(b)
		left := len(b)
		for _, c := range calls {
			switch c % 4 {
			case 0:
				r.Fixed(size)
			case 1:
				r.Var()
			case 2:
				r.Int()
			case 3:
				r.Text(size)
			}
			if r.Left() < 0 || r.Left() > left {
				t.Fatalf("left %d of %d", r.Left(), left)
			}
			left = r.Left()
		}
		if r.End() == api.OK && left > 0 {
			t.Fatalf("OK with %d left", left)
		}
	})
}
