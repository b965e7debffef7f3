package record_test

import (
	"bytes"
	"slices"
	"strings"
	"testing"

	"towpath/api"
	"towpath/record"
)

// refused: Decode of b answers this error, and nothing beside it.
func refused(t *testing.T, b []byte, want api.Errno) {
	t.Helper()
	if x, e := record.Decode(b); e != want || x.Number != 0 || x.Writes != nil {
		t.Errorf("Decode(%x) = %#v, %v, want %v", b, x, e, want)
	}
}

// P5.2: the chapter's last two rows.
func TestExamplesOfDecode(t *testing.T) {
	for _, c := range []struct {
		b string
		e api.Errno
	}{
		{"", api.ErrShort}, {"00", api.ErrArg}, {"01", api.ErrShort}, {"0121", api.ErrLimit},
		{"010100", api.ErrArg}, {"0101016102", api.ErrForm}, {"010000", api.ErrForm}, {"01010161", api.ErrShort},
		{"8000", api.ErrForm}, {"010141" + strings.Repeat("6b", 65), api.ErrLimit},
	} {
		refused(t, unhex(t, c.b), c.e)
	}
	refused(t, nil, api.ErrShort)
}

// P5.2: the first refusal counts, whatever stands behind it.
func TestDecodeRefusals(t *testing.T) {
	most := "ffffffffffffffffff01" // 2^64 - 1
	for _, c := range []struct {
		b string
		e api.Errno
	}{
		// the number
		{"80", api.ErrShort}, {"ff8000", api.ErrForm}, {"ffffffffffffffffff02", api.ErrForm},
		{"818004", api.ErrArg}, {"ffff03", api.ErrShort}, {"808004", api.ErrShort}, // 65537, 65535, 65536
		{most, api.ErrArg}, {"8180808010", api.ErrArg}, // 2^32 + 1
		{"81808080808080808001", api.ErrArg}, // 2^63 + 1
		{"0021", api.ErrArg}, {"0080", api.ErrArg}, {"008000", api.ErrArg},
		// how many writes
		{"0180", api.ErrShort}, {"018000", api.ErrForm}, {"01ffffffffffffffffff02", api.ErrForm},
		{"0120", api.ErrShort}, {"017f", api.ErrLimit}, {"01" + most, api.ErrLimit},
		{"018080808010", api.ErrLimit}, {"0180808080808080808001", api.ErrLimit}, {"018180808010", api.ErrLimit},
		{"012100", api.ErrLimit}, {"01218000", api.ErrLimit},
		// the key
		{"0101", api.ErrShort}, {"010180", api.ErrShort}, {"01018000", api.ErrForm}, {"01018100", api.ErrForm},
		{"010141", api.ErrLimit}, {"010140", api.ErrShort}, {"01014061", api.ErrShort}, {"0101" + most, api.ErrLimit},
		{"01018080808010", api.ErrLimit}, {"01010261", api.ErrShort},
		{"01010002", api.ErrArg}, {"0101008000", api.ErrArg}, {"01010001", api.ErrArg},
		// the byte
		{"01010161ff", api.ErrForm}, {"0101016180", api.ErrForm}, {"010101610200", api.ErrForm}, {"01010161020178", api.ErrForm},
		// the value
		{"0101016100", api.ErrShort}, {"010101610080", api.ErrShort}, {"01010161008000", api.ErrForm},
		{"01010161008108", api.ErrLimit}, {"01010161008008", api.ErrShort}, {"0101016100" + most, api.ErrLimit},
		{"010101610002ee", api.ErrShort}, {"01010161008180808010", api.ErrLimit},
		// the next write
		{"01020161010161", api.ErrShort}, {"01020161010002", api.ErrArg}, {"010201610001", api.ErrShort},
		{"0102016100017800", api.ErrArg}, {"01020161000178016203", api.ErrForm}, {"010201610141", api.ErrLimit},
		// what is left
		{"01010161010178", api.ErrForm}, {"0101016101" + "00", api.ErrForm}, {"01010161000000", api.ErrForm}, {"010080", api.ErrForm},
	} {
		refused(t, unhex(t, c.b), c.e)
	}
}

// P5.2: all values of the byte behind a key.
func TestDecodeOfAllDropBytes(t *testing.T) {
	for x := range 256 {
		b := []byte{1, 1, 1, 'a', byte(x)}
		switch x {
		case 0:
			refused(t, b, api.ErrShort)
		case 1:
			if y, e := record.Decode(b); e != api.OK || !same(y, txn(1, drop("a"))) {
				t.Errorf("Decode(%x) = %#v, %v", b, y, e)
			}
		default:
			refused(t, b, api.ErrForm)
		}
	}
}

// P5.2: a key and a value of one byte too many, all of them there.
func TestDecodeOfLongTexts(t *testing.T) {
	refused(t, bytesOf(txn(1, set(long(65), "x"))), api.ErrLimit)
	refused(t, bytesOf(txn(1, drop(long(65)))), api.ErrLimit)
	refused(t, bytesOf(txn(1, set("a", long(1025)))), api.ErrLimit)
	refused(t, bytesOf(txn(1, many(33)...)), api.ErrLimit)
	refused(t, bytesOf(txn(1, set("", "x"))), api.ErrArg)
	refused(t, bytesOf(txn(0, set("a", "x"))), api.ErrArg)
	refused(t, bytesOf(txn(65537, set("a", "x"))), api.ErrArg)
}

// P5.4: no transaction's bytes are the beginning of another one's: cut anywhere they end too early, and nothing may stand behind them.
func TestNoneBeginsAnother(t *testing.T) {
	for _, x := range mayBe() {
		b := encoded(t, x)
		for n := range b {
			if _, e := record.Decode(b[:n:n]); e != api.ErrShort {
				t.Fatalf("%d of %d bytes: %v", n, len(b), e)
			}
		}
		for more := range 256 {
			if y, e := record.Decode(append(slices.Clone(b), byte(more))); e != api.ErrForm || y.Writes != nil {
				t.Fatalf("%x behind: %v, %v", more, y, e)
			}
		}
	}
}

// R4: the bytes are neither changed nor kept, and what stands in their spare room is not read.
func TestDecodeOfSpareRoom(t *testing.T) {
	whole := unhex(t, "01020161000178016201")
	b := slices.Clone(whole)
	refused(t, b[:9], api.ErrShort)
	x, e := record.Decode(b)
	if e != api.OK || !bytes.Equal(b, whole) {
		t.Fatalf("%v, or changed: %x", e, b)
	}
	for i := range b {
		b[i] = 0xee
	}
	if !same(x, txn(1, set("a", "x"), drop("b"))) {
		t.Errorf("a later change shows in the answer: %v", x)
	}
}

// R4, R5: two answers share no memory, and one hangs on nothing but its bytes.
func TestDecodeAnswersNewMemory(t *testing.T) {
	b := unhex(t, "01020161000178016201")
	want := txn(1, set("a", "x"), drop("b"))
	x, _ := record.Decode(b)
	y, _ := record.Decode(b)
	room := x.Writes[:cap(x.Writes)]
	for i := range room {
		room[i] = set("z", "z")
	}
	z, e := record.Decode(b)
	if e != api.OK || !same(y, want) || !same(z, want) {
		t.Errorf("one answer shows in another: %v, %v, %v", y, z, e)
	}
}
