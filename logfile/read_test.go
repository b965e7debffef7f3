package logfile_test

import (
	"bytes"
	"slices"
	"strings"
	"testing"

	"towpath/api"
	"towpath/logfile"
)

// tells: does Read tell these transactions, so many bytes, and this error?
func tells(t *testing.T, name string, b []byte, l []api.Txn, good int, e api.Errno) {
	t.Helper()
	got, n, f := logfile.Read(b)
	if !same(got, l) || n != good || f != e {
		t.Errorf("%s: Read = %d transactions, %d, %v, want %d, %d, %v", name, len(got), n, f, len(l), good, e)
	}
}

// P6.2: the chapter's rows.
func TestExamplesOfRead(t *testing.T) {
	first, second := unhex(t, firstHex), unhex(t, secondHex)
	all := slices.Concat(first, second)
	l := chapterLog()
	spoilt := slices.Clone(all)
	spoilt[len(spoilt)-1]++
	tells(t, "none", nil, nil, 0, api.OK)
	tells(t, "no bytes", []byte{}, nil, 0, api.OK)
	tells(t, "T", all, l, 19, api.OK)
	tells(t, "without the last byte", all[:18], l[:1], 12, api.ErrShort)
	tells(t, "with 00 behind", slices.Concat(all, []byte{0}), l, 19, api.ErrShort)
	tells(t, "with 05 behind", slices.Concat(all, []byte{5}), l, 19, api.ErrShort)
	tells(t, "the second alone", second, nil, 0, api.ErrOrder)
	tells(t, "the first twice", slices.Concat(first, first), l[:1], 12, api.ErrOrder)
	tells(t, "the last byte another one", spoilt, l[:1], 12, api.ErrForm)
}

// wrongRecord: bytes that are no record where the number 3 must come, and why.
type wrongRecord struct {
	name string
	b    []byte
	e    api.Errno
}

// spoil: the same bytes but the one at the place i, from behind if i is below 0.
func spoil(b []byte, i int) []byte {
	out := slices.Clone(b)
	if i < 0 {
		i += len(out)
	}
	out[i] ^= 0x10
	return out
}

// wrongRecords: one for each refusal, and those of which several apply.
func wrongRecords() []wrongRecord {
	third := recordBytes(txn(3, set("a", "x")))
	none := framed(nil)
	over := text(strings.Repeat("\x00", 65537))
	most := strings.Repeat("\x00", 65536)
	// The transaction's bytes, refused by Decode in each way that there is.
	arg, limit, form, short := []byte{0, 0}, []byte{3, 33}, []byte{3, 0, 0}, []byte{3, 1}
	return []wrongRecord{
		// What the reader refuses of the text.
		{"a length that goes on", []byte{0x80}, api.ErrShort},
		{"a length with a 0 behind", []byte{0x83, 0, 1, 2, 3}, api.ErrForm},
		{"a length of eleven bytes", bytes.Repeat([]byte{0xff}, 11), api.ErrForm},
		{"a text that is cut", third[:4], api.ErrShort},
		{"a length and no more", third[:1], api.ErrShort},
		{"too long, and all there", slices.Concat(over, []byte{1, 2, 3, 4}), api.ErrLimit},
		{"too long, and cut", over[:9], api.ErrLimit},
		{"a length of 2^63", slices.Concat(bytes.Repeat([]byte{0x80}, 9), []byte{1, 0}), api.ErrLimit},
		{"as long as may be, and cut", text(most)[:65530], api.ErrShort},
		// Or of the four bytes.
		{"no CRC", third[:len(third)-4], api.ErrShort},
		{"a CRC of three bytes", third[:len(third)-1], api.ErrShort},
		{"no CRC behind what Decode refuses", text(string(arg)), api.ErrShort},
		{"a CRC of three bytes behind as long as may be", slices.Concat(text(most), []byte{1, 2, 3}), api.ErrShort},
		// The CRC.
		{"a CRC with its first byte another one", spoil(third, -4), api.ErrForm},
		{"a CRC with its second byte another one", spoil(third, -3), api.ErrForm},
		{"a CRC with its third byte another one", spoil(third, -2), api.ErrForm},
		{"a CRC with its last byte another one", spoil(third, -1), api.ErrForm},
		{"a value that is another one", spoil(third, -5), api.ErrForm},
		{"another CRC, and ErrArg of Decode", spoil(framed(arg), -1), api.ErrForm},
		{"another CRC, and ErrLimit of Decode", spoil(framed(limit), -1), api.ErrForm},
		{"another CRC, and ErrShort of Decode", spoil(framed(short), -1), api.ErrForm},
		{"another CRC, and not its turn", spoil(recordBytes(txn(9)), -1), api.ErrForm},
		{"another CRC of no bytes", spoil(none, -1), api.ErrForm},
		{"a CRC with its lowest byte last", append(third[:len(third)-4:len(third)-4], reversed(third[len(third)-4:])...), api.ErrForm},
		// What Decode refuses.
		{"no bytes", none, api.ErrShort},
		{"ErrArg of Decode", framed(arg), api.ErrArg},
		{"ErrArg of Decode, as long as may be", framed([]byte(most)), api.ErrArg},
		{"ErrArg of Decode, for the number is too great", framed(txnBytes(txn(api.MaxLog + 1))), api.ErrArg},
		{"ErrArg of Decode, for a key is empty", framed(txnBytes(txn(3, set("", "x")))), api.ErrArg},
		{"ErrLimit of Decode", framed(limit), api.ErrLimit},
		{"ErrForm of Decode", framed(form), api.ErrForm},
		{"ErrShort of Decode", framed(short), api.ErrShort},
		{"ErrLimit of Decode, and not its turn", framed([]byte{9, 33}), api.ErrLimit},
		{"ErrShort of Decode, and not its turn", framed([]byte{9}), api.ErrShort},
		// The turn.
		{"the one ahead again", recordBytes(txn(2)), api.ErrOrder},
		{"the first one again", recordBytes(txn(1)), api.ErrOrder},
		{"the next but one", recordBytes(txn(4)), api.ErrOrder},
		{"the last that may be", recordBytes(txn(api.MaxLog)), api.ErrOrder},
	}
}

// reversed: the bytes the other way round.
func reversed(b []byte) []byte {
	out := slices.Clone(b)
	slices.Reverse(out)
	return out
}

// P6.2: what is ahead is told, what is behind is not.
func TestReadOfWrongRecords(t *testing.T) {
	ahead := unhex(t, firstHex+secondHex)
	behind := recordBytes(txn(3))
	for _, c := range wrongRecords() {
		tells(t, c.name, slices.Concat(ahead, c.b), chapterLog(), 19, c.e)
		// Where bytes were missing, those behind are taken for them, and something else may be wrong.
		if c.e == api.ErrShort {
			continue
		}
		tells(t, c.name+", and more", slices.Concat(ahead, c.b, behind), chapterLog(), 19, c.e)
	}
}

// P6.2: ahead of all others.
func TestReadOfAWrongFirst(t *testing.T) {
	for _, c := range wrongRecords() {
		if c.name == "the first one again" {
			continue
		}
		tells(t, c.name, c.b, nil, 0, c.e)
	}
	for _, n := range []int{2, 3, 128, api.MaxLog} {
		tells(t, "a first one of another number", recordBytes(txn(n)), nil, 0, api.ErrOrder)
	}
	tells(t, "of the number 0", recordBytes(txn(0)), nil, 0, api.ErrArg)
}

// P6.2: as long as may be is taken where Decode takes it: none is so long, but the biggest is taken whole.
func TestReadOfTheBiggest(t *testing.T) {
	l := []api.Txn{biggest(1), biggest(2)}
	b := logBytes(l)
	tells(t, "the biggest", b, l, len(b), api.OK)
	tells(t, "the biggest, cut", b[:len(b)-1], l[:1], len(b)/2, api.ErrShort)
}

// P6.2: behind the last that may be there is none.
func TestReadOfTooMany(t *testing.T) {
	l := empties(api.MaxLog)
	b := logBytes(l)
	tells(t, "one more", slices.Concat(b, recordBytes(txn(api.MaxLog+1))), l, len(b), api.ErrArg)
	tells(t, "the first again", slices.Concat(b, recordBytes(txn(1))), l, len(b), api.ErrOrder)
}

// R4: the bytes are not changed, nor their spare room.
func TestReadChangesNothing(t *testing.T) {
	spare := slices.Concat(logBytes(chapterLog()), []byte{9, 9, 9})
	kept := slices.Clone(spare)
	b := spare[:len(spare)-3]
	l, _, _ := logfile.Read(b)
	if !bytes.Equal(spare, kept) {
		t.Errorf("changed: %x", spare)
	}
	clear(spare)
	if !same(l, chapterLog()) {
		t.Errorf("a later change shows in the answer: %v", l)
	}
}

// R4: neither two answers share memory, nor two lists of one answer; spare room neither.
func TestReadAnswersNewMemory(t *testing.T) {
	log := []api.Txn{txn(1, set("a", "1"), drop("b")), txn(2), txn(3, set("c", "3")), txn(4, drop("d"))}
	b := logBytes(log)
	l, _, _ := logfile.Read(b)
	other, _, _ := logfile.Read(b)
	for i := range l {
		w := l[i].Writes[:cap(l[i].Writes)]
		for k := range w {
			w[k] = set("spoilt", "spoilt")
		}
		if !same(l[i+1:], log[i+1:]) {
			t.Fatalf("the writes of %d show in others: %v", i+1, l)
		}
	}
	l = l[:cap(l)]
	clear(l)
	if again, _, _ := logfile.Read(b); !same(other, log) || !same(again, log) {
		t.Errorf("one answer shows in another: %v, %v", other, again)
	}
}
