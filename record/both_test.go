package record_test

import (
	"bytes"
	"encoding/binary"
	"math/rand"
	"testing"

	"towpath/api"
	"towpath/record"
)

// plain takes bytes by the chapter's words, without the reader; what is wrong first stays.
type plain struct {
	b     []byte
	wrong api.Errno
}

// refuse keeps the first refusal.
func (p *plain) refuse(is bool, e api.Errno) {
	if is && p.wrong == api.OK {
		p.wrong = e
	}
}

// number: the next short number.
func (p *plain) number() uint64 {
	for i, x := range p.b {
		if i == 9 && x > 1 || i > 0 && x == 0 {
			p.refuse(true, api.ErrForm)
			return 0
		}
		if x < 128 {
			n, size := binary.Uvarint(p.b)
			p.b = p.b[size:]
			return n
		}
	}
	p.refuse(true, api.ErrShort)
	return 0
}

// text: the next text of at most so many bytes.
func (p *plain) text(most uint64) string {
	n := p.number()
	p.refuse(n > most, api.ErrLimit)
	p.refuse(n > uint64(len(p.b)), api.ErrShort)
	if p.wrong != api.OK {
		return ""
	}
	s := string(p.b[:n])
	p.b = p.b[n:]
	return s
}

// write: the next write.
func (p *plain) write() api.Write {
	w := api.Write{Key: p.text(64)}
	p.refuse(w.Key == "", api.ErrArg)
	p.refuse(len(p.b) == 0, api.ErrShort)
	if p.wrong != api.OK {
		return w
	}
	p.refuse(p.b[0] > 1, api.ErrForm)
	w.Drop = p.b[0] == 1
	p.b = p.b[1:]
	if !w.Drop {
		w.Val = p.text(1024)
	}
	return w
}

// plainly: what Decode must answer.
func plainly(b []byte) (api.Txn, api.Errno) {
	p := &plain{b: b}
	n := p.number()
	p.refuse(n < 1 || n > 65536, api.ErrArg)
	count := p.number()
	p.refuse(count > 32, api.ErrLimit)
	x := api.Txn{Number: int(n)}
	for i := uint64(0); i < count && p.wrong == api.OK; i++ {
		x.Writes = append(x.Writes, p.write())
	}
	p.refuse(len(p.b) > 0, api.ErrForm)
	if p.wrong != api.OK {
		return api.Txn{}, p.wrong
	}
	return x, api.OK
}

// asPlainly: Decode answers what plainly does; and what it takes Encode tells again.
func asPlainly(t *testing.T, b []byte) api.Errno {
	t.Helper()
	want, e := plainly(b)
	x, f := record.Decode(b)
	if e != f || !same(x, want) {
		t.Fatalf("Decode(%x) = %#v, %v, want %#v, %v", b, x, f, want, e)
	}
	if f != api.OK {
		return f
	}
	if again, e := record.Encode(x); e != api.OK || !bytes.Equal(again, b) {
		t.Fatalf("Decode took %x, Encode tells %x, %v", b, again, e)
	}
	if n, e := record.Size(x); e != api.OK || n != len(b) {
		t.Fatalf("Size of %x = %d, %v", b, n, e)
	}
	if e := record.Check(x); e != api.OK {
		t.Fatalf("Decode took %x, Check = %v", b, e)
	}
	return f
}

// some: a text of least bytes, and of less than most more, by the dice.
func some(dice *rand.Rand, least, most int) string {
	b := make([]byte, least+dice.Intn(most))
	dice.Read(b)
	return string(b)
}

// someTxn: a transaction that may be, by the dice.
func someTxn(dice *rand.Rand, most int) api.Txn {
	x := api.Txn{Number: 1 + dice.Intn(api.MaxLog)>>dice.Intn(16)}
	for range dice.Intn(most) {
		w := api.Write{Key: some(dice, 1, api.MaxKey>>dice.Intn(6))}
		if w.Drop = dice.Intn(3) == 0; !w.Drop {
			w.Val = some(dice, 0, api.MaxVal>>dice.Intn(10))
		}
		x.Writes = append(x.Writes, w)
	}
	return x
}

// P5.2, P5.3, P5.4
func TestDecodeLeadsBack(t *testing.T) {
	dice := rand.New(rand.NewSource(5))
	for range 5000 {
		x := someTxn(dice, api.MaxWrites+1)
		b := encoded(t, x)
		if y, e := record.Decode(b); e != api.OK || !same(x, y) {
			t.Fatalf("Decode(Encode(%#v)) = %#v, %v", x, y, e)
		}
		if !bytes.Equal(b, bytesOf(x)) {
			t.Fatalf("Encode(%#v) = %x", x, b)
		}
		asPlainly(t, b)
	}
}

// P5.2, P5.4: all bytes of at most two, and all of few letters up to seven.
func TestDecodeOfAllShortBytes(t *testing.T) {
	for a := range 256 {
		for b := range 256 {
			asPlainly(t, []byte{byte(a), byte(b)})
		}
	}
	letters := []byte{0, 1, 2, 'a', 0x21, 0x80}
	taken := 0
	var all func(b []byte)
	all = func(b []byte) {
		if asPlainly(t, b) == api.OK {
			taken++
		}
		if len(b) == 7 {
			return
		}
		for _, x := range letters {
			all(append(b[:len(b):len(b)], x))
		}
	}
	all(nil)
	if taken == 0 {
		t.Error("none was taken")
	}
}

// P5.2, P5.4: bytes of a transaction with some of them changed, cut off or put in.
func TestDecodeOfSpoiltBytes(t *testing.T) {
	dice := rand.New(rand.NewSource(6))
	edges := []byte{0, 1, 2, 0x20, 0x21, 0x40, 0x41, 0x7f, 0x80, 0x81, 0xff}
	seen := map[api.Errno]int{}
	for range 100000 {
		b := bytesOf(someTxn(dice, 4))
		for range 1 + dice.Intn(3) {
			at := dice.Intn(min(len(b), 12))
			switch dice.Intn(4) {
			case 0:
				b[at] = byte(dice.Intn(256))
			case 1:
				b[at] = edges[dice.Intn(len(edges))]
			case 2:
				b = b[:len(b)-dice.Intn(min(len(b), 3))]
			case 3:
				b = append(b[:at:at], append([]byte{edges[dice.Intn(len(edges))]}, b[at:]...)...)
			}
		}
		seen[asPlainly(t, b)]++
	}
	for _, e := range []api.Errno{api.OK, api.ErrArg, api.ErrLimit, api.ErrForm, api.ErrShort} {
		if seen[e] < 100 {
			t.Errorf("%v only %d times", e, seen[e])
		}
	}
}

func FuzzDecode(f *testing.F) {
	for _, x := range mayBe() {
		f.Add(bytesOf(x))
	}
	f.Add([]byte{1, 1, 1, 'a', 2})
	f.Add([]byte{0xff, 0xff, 0xff, 0xff, 0xff, 0xff, 0xff, 0xff, 0xff, 2})
	f.Fuzz(func(t *testing.T, b []byte) {
		asPlainly(t, b)
	})
}

func FuzzEncode(f *testing.F) {
	f.Add(1, "a", "x", false, 1)
	f.Add(api.MaxLog, "b", "", true, 32)
	f.Add(0, "", "y", true, 33)
	f.Fuzz(func(t *testing.T, number int, key, val string, dropped bool, count int) {
		x := api.Txn{Number: number}
		for range min(count, 40) {
			x.Writes = append(x.Writes, api.Write{Key: key, Val: val, Drop: dropped})
		}
		b, e := record.Encode(x)
		if e != record.Check(x) {
			t.Fatalf("Encode: %v, Check: %v", e, record.Check(x))
		}
		if e != api.OK {
			return
		}
		if y, e := record.Decode(b); e != api.OK || !same(x, y) {
			t.Fatalf("Decode(%x) = %#v, %v", b, y, e)
		}
	})
}
