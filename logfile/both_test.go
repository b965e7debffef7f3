package logfile_test

import (
	"bytes"
	"encoding/binary"
	"math/rand"
	"slices"
	"testing"

	"towpath/api"
	"towpath/logfile"
	"towpath/record"
)

// some: a text of least bytes, and of less than most more, by the dice.
func some(dice *rand.Rand, least, most int) string {
	b := make([]byte, least+dice.Intn(most))
	dice.Read(b)
	return string(b)
}

// someLog: a log that may be, of less than most transactions, by the dice.
func someLog(dice *rand.Rand, most int) []api.Txn {
	l := empties(dice.Intn(most))
	for i := range l {
		for range dice.Intn(4) {
			w := api.Write{Key: some(dice, 1, api.MaxKey>>dice.Intn(6))}
			if w.Drop = dice.Intn(3) == 0; !w.Drop {
				w.Val = some(dice, 0, api.MaxVal>>dice.Intn(10))
			}
			l[i].Writes = append(l[i].Writes, w)
		}
	}
	return l
}

// length: the short number at the beginning of some bytes, of how many bytes it is, or what chapter 2 refuses of it.
func length(b []byte) (uint64, int, api.Errno) {
	for i, x := range b {
		if i == 9 && x > 1 || i > 0 && x == 0 {
			return 0, 0, api.ErrForm
		}
		if x < 128 {
			n, size := binary.Uvarint(b)
			return n, size, api.OK
		}
	}
	return 0, 0, api.ErrShort
}

// plainRecord: the record at the beginning of some bytes that has this number, of how many bytes it is, or why it is none; by the chapter's words, without the reader.
func plainRecord(b []byte, number int) (api.Txn, int, api.Errno) {
	n, begin, e := length(b)
	switch {
	case e != api.OK:
		return api.Txn{}, 0, e
	case n > 65536:
		return api.Txn{}, 0, api.ErrLimit
	case uint64(len(b)-begin) < n+4: // of the text, or of the four bytes behind it
		return api.Txn{}, 0, api.ErrShort
	}
	end := begin + int(n)
	if binary.LittleEndian.Uint32(b[end:]) != crc(b[begin:end]) {
		return api.Txn{}, 0, api.ErrForm
	}
	x, e := record.Decode(b[begin:end])
	if e == api.OK && x.Number != number {
		e = api.ErrOrder
	}
	return x, end + 4, e
}

// plainly: what Read must answer.
func plainly(b []byte) (l []api.Txn, good int, e api.Errno) {
	for good < len(b) {
		x, size, e := plainRecord(b[good:], len(l)+1)
		if e != api.OK {
			return l, good, e
		}
		l, good = append(l, x), good+size
	}
	return l, good, api.OK
}

// asPlainly: Read answers what plainly does, and that is a log that may be, of which the good bytes are the Encode.
func asPlainly(t *testing.T, b []byte) ([]api.Txn, int, api.Errno) {
	t.Helper()
	want, size, code := plainly(b)
	l, good, e := logfile.Read(b)
	if !same(l, want) || good != size || e != code {
		t.Fatalf("Read(%x) = %#v, %d, %v, want %#v, %d, %v", b, l, good, e, want, size, code)
	}
	if e := logfile.Check(l); e != api.OK {
		t.Fatalf("Read(%x) tells %#v, Check = %v", b, l, e)
	}
	if again := encoded(t, l); !bytes.Equal(again, b[:good]) {
		t.Fatalf("Read(%x) tells %d good bytes, Encode tells %x", b, good, again)
	}
	return l, good, e
}

// P6.6: Read of what Encode tells.
func TestReadLeadsBack(t *testing.T) {
	dice := rand.New(rand.NewSource(1))
	for range 500 {
		l := someLog(dice, 30)
		b := encoded(t, l)
		if !bytes.Equal(b, logBytes(l)) {
			t.Fatalf("Encode(%#v) = %x", l, b)
		}
		again, good, e := asPlainly(t, b)
		if !same(again, l) || good != len(b) || e != api.OK {
			t.Fatalf("Read of Encode(%#v) = %#v, %d of %d, %v", l, again, good, len(b), e)
		}
	}
	for i, l := range mayBe() {
		if again, good, e := asPlainly(t, encoded(t, l)); !same(again, l) || good != len(logBytes(l)) || e != api.OK {
			t.Errorf("%d: Read of Encode = %#v, %d, %v", i, again, good, e)
		}
	}
}

// wholeAt: how many records stand whole ahead of a place, and of how many bytes they are.
func wholeAt(l []api.Txn, place int) (int, int) {
	end := 0
	for i, x := range l {
		next := end + len(recordBytes(x))
		if next > place {
			return i, end
		}
		end = next
	}
	return len(l), end
}

// P6.6: cut at each place: what stands whole ahead of it is told, and what is left of one is too short.
func TestReadOfCutBytes(t *testing.T) {
	dice := rand.New(rand.NewSource(2))
	logs := [][]api.Txn{chapterLog(), empties(140), {txn(1, set("a", long(200))), txn(2), txn(3, drop("b"))}}
	for range 10 {
		logs = append(logs, someLog(dice, 6))
	}
	for _, l := range logs {
		b := logBytes(l)
		for place := range len(b) + 1 {
			count, end := wholeAt(l, place)
			want := api.ErrShort
			if end == place {
				want = api.OK
			}
			got, good, e := logfile.Read(b[:place])
			if !same(got, l[:count]) || good != end || e != want {
				t.Fatalf("%x cut at %d: %d transactions, %d, %v, want %d, %d, %v", b, place, len(got), good, e, count, end, want)
			}
		}
	}
}

// P6.6: whatever is put behind a log's bytes, cut or not, what stands whole ahead of it is told.
func TestReadOfMoreBehind(t *testing.T) {
	dice := rand.New(rand.NewSource(3))
	for range 3000 {
		l := someLog(dice, 5)
		b := logBytes(l)
		place := len(b)
		if dice.Intn(2) == 0 {
			place = dice.Intn(len(b) + 1)
		}
		count, end := wholeAt(l, place)
		more := slices.Concat(b[:place], []byte(some(dice, 1, 1+20>>dice.Intn(5))))
		got, good, e := asPlainly(t, more)
		if len(got) < count || !same(got[:count], l[:count]) || good < end {
			t.Fatalf("%x: %d transactions, %d, %v, want %d at least, %d", more, len(got), good, e, count, end)
		}
	}
}

// P6.2, P6.6: each single bit that is another one is found, at its record.
func TestReadOfOneBitSpoilt(t *testing.T) {
	l := []api.Txn{txn(1, set("a", "x")), txn(2, set("key", long(130)), drop("b")), txn(3)}
	b := logBytes(l)
	for i := range 8 * len(b) {
		spoilt := slices.Clone(b)
		spoilt[i/8] ^= 1 << (i % 8)
		count, end := wholeAt(l, i/8)
		got, good, e := asPlainly(t, spoilt)
		if !same(got, l[:count]) || good != end || e == api.OK {
			t.Fatalf("bit %d: %d transactions, %d, %v, want %d, %d", i, len(got), good, e, count, end)
		}
	}
}

// P6.2, P6.6: all bytes of at most two, and all of few letters up to seven.
func TestReadOfAllShortBytes(t *testing.T) {
	for a := range 256 {
		for b := range 256 {
			asPlainly(t, []byte{byte(a), byte(b)})
		}
	}
	letters := []byte{0, 1, 2, 0x7f, 0x80, 0xff}
	var all func(b []byte)
	all = func(b []byte) {
		asPlainly(t, b)
		if len(b) == 7 {
			return
		}
		for _, x := range letters {
			all(append(b[:len(b):len(b)], x))
		}
	}
	all(nil)
}

// pieces: bytes of records, whole ones in any order and spoilt ones, by the dice.
func pieces(dice *rand.Rand, l []api.Txn) []byte {
	edges := []byte{0, 1, 2, 33, 65, 0x80, 0xff}
	var b []byte
	for i := range l {
		inner := txnBytes(l[i])
		switch dice.Intn(12) {
		case 0:
			inner = txnBytes(l[dice.Intn(len(l))])
		case 1:
			inner[dice.Intn(min(len(inner), 5))] = edges[dice.Intn(len(edges))]
		case 2:
			inner = inner[:dice.Intn(len(inner))]
		case 3:
			inner = append(inner, byte(dice.Intn(256)))
		}
		outer := framed(inner)
		switch dice.Intn(12) {
		case 0:
			outer[dice.Intn(len(outer))] = byte(dice.Intn(256))
		case 1:
			outer = outer[:dice.Intn(len(outer))]
		case 2:
			outer = slices.Insert(outer, dice.Intn(len(outer)), byte(dice.Intn(256)))
		}
		b = append(b, outer...)
	}
	return b
}

// P6.2, P6.6: spoilt within their CRC and without.
func TestReadOfSpoiltBytes(t *testing.T) {
	dice := rand.New(rand.NewSource(4))
	seen := map[api.Errno]int{}
	for range 20000 {
		_, _, e := asPlainly(t, pieces(dice, someLog(dice, 6)))
		seen[e]++
	}
	for _, e := range []api.Errno{api.OK, api.ErrArg, api.ErrLimit, api.ErrForm, api.ErrShort, api.ErrOrder} {
		if seen[e] < 20 {
			t.Errorf("%v only %d times", e, seen[e])
		}
	}
}

// P6.3: any numbers and keys, held against a plain count.
func TestCheckByTheDice(t *testing.T) {
	dice := rand.New(rand.NewSource(5))
	plain := func(l []api.Txn) api.Errno {
		for i, x := range l {
			if record.Check(x) != api.OK {
				return api.ErrArg
			}
			if x.Number != i+1 {
				return api.ErrOrder
			}
		}
		return api.OK
	}
	seen := map[api.Errno]int{}
	for range 20000 {
		l := someLog(dice, 6)
		for i := range l {
			switch dice.Intn(12) {
			case 0:
				l[i].Number = dice.Intn(8) - 1
			case 1:
				l[i].Writes = append(l[i].Writes, api.Write{Key: some(dice, 0, 2)})
			}
		}
		want := plain(l)
		if e := logfile.Check(l); e != want {
			t.Fatalf("Check(%#v) = %v, want %v", l, e, want)
		}
		if _, e := logfile.Encode(l); e != want {
			t.Fatalf("Encode(%#v) = %v, want %v", l, e, want)
		}
		seen[want]++
	}
	for _, e := range []api.Errno{api.OK, api.ErrArg, api.ErrOrder} {
		if seen[e] < 100 {
			t.Errorf("%v only %d times", e, seen[e])
		}
	}
}

func FuzzRead(f *testing.F) {
	for _, l := range [][]api.Txn{nil, chapterLog(), empties(3), {txn(1, drop("b")), txn(3)}} {
		f.Add(logBytes(l))
	}
	for _, c := range wrongRecords() {
		if len(c.b) < 100 {
			f.Add(c.b)
		}
	}
	f.Fuzz(func(t *testing.T, b []byte) {
		asPlainly(t, b)
		// Framed, so that what is within a right CRC is tried, too.
		asPlainly(t, slices.Concat(framed(b), recordBytes(txn(2))))
	})
}

func FuzzEncode(f *testing.F) {
	f.Add(1, 2, "a", "x", false)
	f.Add(1, 1, "b", "", true)
	f.Add(0, 65537, "", "y", true)
	f.Fuzz(func(t *testing.T, a, b int, key, val string, dropped bool) {
		l := []api.Txn{{Number: a, Writes: []api.Write{{Key: key, Val: val, Drop: dropped}}}, txn(b)}
		out, e := logfile.Encode(l)
		if e != logfile.Check(l) {
			t.Fatalf("Encode: %v, Check: %v", e, logfile.Check(l))
		}
		if e != api.OK {
			return
		}
		if again, good, e := logfile.Read(out); e != api.OK || good != len(out) || !same(again, l) {
			t.Fatalf("Read(%x) = %#v, %d, %v", out, again, good, e)
		}
	})
}
