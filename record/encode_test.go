package record_test

import (
	"bytes"
	"encoding/binary"
	"encoding/hex"
	"slices"
	"testing"

	"towpath/api"
	"towpath/record"
)

// unhex: the bytes of this text.
func unhex(t *testing.T, s string) []byte {
	t.Helper()
	b, err := hex.DecodeString(s)
	if err != nil {
		t.Fatal(err)
	}
	return b
}

// bytesOf: a transaction's bytes by the chapter's words, without the writer.
func bytesOf(x api.Txn) []byte {
	text := func(b []byte, s string) []byte {
		return append(binary.AppendUvarint(b, uint64(len(s))), s...)
	}
	b := binary.AppendUvarint(nil, uint64(x.Number))
	b = binary.AppendUvarint(b, uint64(len(x.Writes)))
	for _, w := range x.Writes {
		b = text(b, w.Key)
		if w.Drop {
			b = append(b, 1)
		} else {
			b = text(append(b, 0), w.Val)
		}
	}
	return b
}

// same: are they the same transaction?
func same(a, b api.Txn) bool {
	return a.Number == b.Number && slices.Equal(a.Writes, b.Writes)
}

// encoded: the bytes of a transaction that may be.
func encoded(t *testing.T, x api.Txn) []byte {
	t.Helper()
	b, e := record.Encode(x)
	if e != api.OK {
		t.Fatalf("Encode(%#v) = %v", x, e)
	}
	return b
}

// P5.2, P5.3: the chapter's first three rows.
func TestExamplesOfEncode(t *testing.T) {
	for _, c := range []struct {
		x    api.Txn
		b    string
		size int
	}{
		{txn(1, set("a", "x"), drop("b")), "01020161000178016201", 10},
		{txn(300), "ac0200", 3},
	} {
		if b := encoded(t, c.x); !bytes.Equal(b, unhex(t, c.b)) {
			t.Errorf("Encode(%#v) = %x, want %s", c.x, b, c.b)
		}
		if n, e := record.Size(c.x); n != c.size || e != api.OK {
			t.Errorf("Size(%#v) = %d, %v", c.x, n, e)
		}
		if y, e := record.Decode(unhex(t, c.b)); e != api.OK || !same(c.x, y) {
			t.Errorf("Decode(%s) = %#v, %v", c.b, y, e)
		}
	}
}

// P5.2, P5.3, P5.4
func TestEncodeOfTheEdges(t *testing.T) {
	for i, x := range mayBe() {
		b, want := encoded(t, x), bytesOf(x)
		if !bytes.Equal(b, want) {
			t.Errorf("%d: Encode = %x, want %x", i, b, want)
		}
		if n, e := record.Size(x); n != len(want) || e != api.OK {
			t.Errorf("%d: Size = %d, %v, want %d", i, n, e, len(want))
		}
		if y, e := record.Decode(b); e != api.OK || !same(x, y) {
			t.Errorf("%d: Decode = %#v, %v", i, y, e)
		}
	}
}

// P5.2: every number has its bytes, and comes back.
func TestEncodeOfAllNumbers(t *testing.T) {
	for n := 1; n <= api.MaxLog; n++ {
		b := encoded(t, txn(n))
		if !bytes.Equal(b, bytesOf(txn(n))) {
			t.Fatalf("Encode(%d) = %x", n, b)
		}
		if y, e := record.Decode(b); e != api.OK || !same(y, txn(n)) {
			t.Fatalf("Decode(%x) = %#v, %v", b, y, e)
		}
	}
}

// P5.2: nil and no writes are the same (R4).
func TestNoWrites(t *testing.T) {
	a, b := encoded(t, api.Txn{Number: 7}), encoded(t, api.Txn{Number: 7, Writes: make([]api.Write, 0, 5)})
	if !bytes.Equal(a, b) || !bytes.Equal(a, []byte{7, 0}) {
		t.Errorf("%x, %x", a, b)
	}
}

// R4: what is handed in is not changed, its spare room neither.
func TestEncodeChangesNothing(t *testing.T) {
	spare := []api.Write{set("a", "x"), drop("b"), set("c", "spare"), drop("d")}
	kept := slices.Clone(spare)
	x := api.Txn{Number: 1, Writes: spare[:2]}
	first := encoded(t, x)
	record.Size(x)
	record.Check(x)
	if !slices.Equal(spare, kept) {
		t.Errorf("changed: %v", spare)
	}
	spare[0] = set("z", "z")
	if !bytes.Equal(first, unhex(t, "01020161000178016201")) {
		t.Errorf("a later change shows in the answer: %x", first)
	}
}

// R4: two answers share no memory.
func TestEncodeAnswersNewMemory(t *testing.T) {
	x := txn(1, set("a", "x"), drop("b"))
	a, b := encoded(t, x), encoded(t, x)
	want := slices.Clone(b)
	for i := range a[:cap(a)] {
		a[:cap(a)][i] = 0xee
	}
	if !bytes.Equal(b, want) || !bytes.Equal(encoded(t, x), want) {
		t.Errorf("one answer shows in another: %x", b)
	}
}
