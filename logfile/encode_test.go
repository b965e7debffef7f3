package logfile_test

import (
	"bytes"
	"encoding/binary"
	"encoding/hex"
	"hash/crc32"
	"slices"
	"testing"

	"towpath/api"
	"towpath/logfile"
)

// The chapter's T as bytes: its two records.
const (
	firstHex  = "07010101610001787137394d"
	secondHex = "0202003c4724d6"
)

// unhex: the bytes of this text.
func unhex(t *testing.T, s string) []byte {
	t.Helper()
	b, err := hex.DecodeString(s)
	if err != nil {
		t.Fatal(err)
	}
	return b
}

// text: a text as bytes.
func text(s string) []byte {
	return append(binary.AppendUvarint(nil, uint64(len(s))), s...)
}

// txnBytes: a transaction's bytes by chapter 5's words.
func txnBytes(x api.Txn) []byte {
	b := binary.AppendUvarint(nil, uint64(x.Number))
	b = binary.AppendUvarint(b, uint64(len(x.Writes)))
	for _, w := range x.Writes {
		b = append(b, text(w.Key)...)
		if w.Drop {
			b = append(b, 1)
		} else {
			b = append(append(b, 0), text(w.Val)...)
		}
	}
	return b
}

// crc: the sum of some bytes, the library's.
func crc(b []byte) uint32 {
	return crc32.Checksum(b, crc32.MakeTable(crc32.Castagnoli))
}

// framed: these bytes as a record's text, and their CRC behind it.
func framed(b []byte) []byte {
	return binary.LittleEndian.AppendUint32(text(string(b)), crc(b))
}

// recordBytes: a record's bytes by the chapter's words.
func recordBytes(x api.Txn) []byte { return framed(txnBytes(x)) }

// logBytes: those of all records, one behind the other.
func logBytes(l []api.Txn) []byte {
	var b []byte
	for _, x := range l {
		b = append(b, recordBytes(x)...)
	}
	return b
}

// sameTxn: are they the same transaction?
func sameTxn(a, b api.Txn) bool {
	return a.Number == b.Number && slices.Equal(a.Writes, b.Writes)
}

// same: are they the same log?
func same(a, b []api.Txn) bool { return slices.EqualFunc(a, b, sameTxn) }

// encoded: the bytes of a log that may be.
func encoded(t *testing.T, l []api.Txn) []byte {
	t.Helper()
	b, e := logfile.Encode(l)
	if e != api.OK {
		t.Fatalf("Encode(%#v) = %v", l, e)
	}
	return b
}

// P6.1: the chapter's rows.
func TestExamplesOfEncode(t *testing.T) {
	if b := encoded(t, chapterLog()); !bytes.Equal(b, unhex(t, firstHex+secondHex)) {
		t.Errorf("Encode(T) = %x", b)
	}
	for _, none := range [][]api.Txn{nil, {}} {
		if b := encoded(t, none); len(b) != 0 {
			t.Errorf("Encode(none) = %x", b)
		}
	}
}

// P6.1
func TestEncodeOfTheEdges(t *testing.T) {
	for i, l := range mayBe() {
		if b, want := encoded(t, l), logBytes(l); !bytes.Equal(b, want) {
			t.Errorf("%d: Encode = %x, want %x", i, b, want)
		}
	}
}

// P6.1, P6.2: of as many as may be.
func TestEncodeOfTheLongest(t *testing.T) {
	l := empties(api.MaxLog)
	b := encoded(t, l)
	if !bytes.Equal(b, logBytes(l)) {
		t.Error("Encode of MaxLog tells other bytes")
	}
	again, good, e := logfile.Read(b)
	if !same(again, l) || good != len(b) || e != api.OK {
		t.Errorf("Read of them: %d transactions, %d of %d bytes, %v", len(again), good, len(b), e)
	}
}

// R4: what is handed in is not changed, its spare room neither; what is done to it later does not show.
func TestEncodeChangesNothing(t *testing.T) {
	writes := []api.Write{set("a", "x"), set("spare", "s")}
	spare := []api.Txn{{Number: 1, Writes: writes[:1]}, txn(2), txn(9), txn(8)}
	l := spare[:2]
	b := encoded(t, l)
	logfile.Check(l)
	logfile.New(l)
	if !sameTxn(spare[2], txn(9)) || !sameTxn(spare[3], txn(8)) || !slices.Equal(writes, []api.Write{set("a", "x"), set("spare", "s")}) || !same(l, chapterLog()) {
		t.Errorf("changed: %v, %v", spare, writes)
	}
	writes[0], spare[1] = set("z", "z"), txn(7)
	if !bytes.Equal(b, unhex(t, firstHex+secondHex)) {
		t.Errorf("a later change shows in the answer: %x", b)
	}
}

// R4: two answers share no memory.
func TestEncodeAnswersNewMemory(t *testing.T) {
	a, b := encoded(t, chapterLog()), encoded(t, chapterLog())
	for i := range a[:cap(a)] {
		a[:cap(a)][i] = 0xee
	}
	want := unhex(t, firstHex+secondHex)
	if !bytes.Equal(b, want) || !bytes.Equal(encoded(t, chapterLog()), want) {
		t.Errorf("one answer shows in another: %x", b)
	}
}
