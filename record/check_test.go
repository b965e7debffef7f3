package record_test

import (
	"math"
	"strings"
	"testing"

	"towpath/api"
	"towpath/record"
)

// long: a text of n bytes.
func long(n int) string { return strings.Repeat("k", n) }

// set and drop: a write of a value, and one by which the key goes.
func set(key, val string) api.Write { return api.Write{Key: key, Val: val} }
func drop(key string) api.Write     { return api.Write{Key: key, Drop: true} }

// txn: the transaction of this number with these writes.
func txn(number int, writes ...api.Write) api.Txn {
	return api.Txn{Number: number, Writes: writes}
}

// many: n writes of one key each.
func many(n int) []api.Write {
	out := make([]api.Write, n)
	for i := range out {
		out[i] = set(string(rune('A'+i%50)), "v")
	}
	return out
}

// bad: n writes, of which the one at the place i is w.
func bad(n, i int, w api.Write) api.Txn {
	out := many(n)
	out[i] = w
	return txn(1, out...)
}

// mayBe: transactions that may be, at the edges that the document names.
func mayBe() []api.Txn {
	var every strings.Builder
	for i := range 256 {
		every.WriteByte(byte(i))
	}
	biggest := many(api.MaxWrites)
	for i := range biggest {
		biggest[i] = set(long(api.MaxKey), long(api.MaxVal))
	}
	return []api.Txn{
		txn(1, set("a", "x"), drop("b")), // the chapter's T
		txn(300),
		{Number: 1, Writes: []api.Write{}},
		txn(1), txn(2), txn(127), txn(128), txn(16383), txn(16384), txn(api.MaxLog - 1), txn(api.MaxLog),
		txn(1, set("a", "")),
		txn(1, set(long(api.MaxKey-1), "x")), txn(1, set(long(api.MaxKey), "x")), txn(1, drop(long(api.MaxKey))),
		txn(1, set("a", long(127))), txn(1, set("a", long(128))),
		txn(1, set("a", long(api.MaxVal-1))), txn(1, set("a", long(api.MaxVal))),
		txn(1, set("a", "1"), drop("a"), set("a", "1"), drop("a")), // of one key there may be several
		txn(1, set("\x00", "\x00"), set("\xff\xfe", "\xff"), drop("\x00\x00")),
		txn(1, set(every.String()[:64], every.String()), set(every.String()[192:], every.String())),
		txn(1, many(1)...), txn(1, many(api.MaxWrites-1)...), txn(1, many(api.MaxWrites)...),
		txn(api.MaxLog, biggest...),
	}
}

// mayNotBe: transactions that may not be.
func mayNotBe() []api.Txn {
	out := []api.Txn{
		{}, txn(0, set("a", "x")), txn(-1), txn(math.MinInt), txn(api.MaxLog + 1), txn(math.MaxInt),
		txn(1<<32 + 1), txn(-1 << 32), txn(api.MaxLog+1, set("a", "x")),
		txn(1, many(api.MaxWrites+1)...), txn(1, many(1000)...), {Number: 1, Writes: make([]api.Write, 33)},
		txn(0, set("", long(2000))),
	}
	for _, w := range []api.Write{
		{}, set("", "x"), drop(""), {Drop: true, Val: "x"},
		set(long(api.MaxKey+1), "x"), set(long(10000), ""), drop(long(api.MaxKey + 1)),
		set("a", long(api.MaxVal+1)), set("a", long(100000)),
		{Key: "a", Val: "x", Drop: true}, {Key: "a", Val: "\x00", Drop: true}, {Key: "a", Val: long(api.MaxVal + 1), Drop: true},
	} {
		out = append(out, txn(1, w), bad(5, 0, w), bad(5, 2, w), bad(5, 4, w), bad(api.MaxWrites, api.MaxWrites-1, w))
	}
	return out
}

// P5.1
func TestCheckOfWhatMayBe(t *testing.T) {
	for i, x := range mayBe() {
		if e := record.Check(x); e != api.OK {
			t.Errorf("%d: Check = %v", i, e)
		}
	}
}

// P5.1, and of Encode and Size the same.
func TestWhatMayNotBe(t *testing.T) {
	for i, x := range mayNotBe() {
		if e := record.Check(x); e != api.ErrArg {
			t.Errorf("%d: Check = %v", i, e)
		}
		if b, e := record.Encode(x); e != api.ErrArg || b != nil {
			t.Errorf("%d: Encode = %x, %v", i, b, e)
		}
		if n, e := record.Size(x); e != api.ErrArg || n != 0 {
			t.Errorf("%d: Size = %d, %v", i, n, e)
		}
	}
}

// P5.1: all lengths of a key and of a value, all numbers near the ends, all counts.
func TestCheckOfAllLengths(t *testing.T) {
	want := func(ok bool) api.Errno {
		if ok {
			return api.OK
		}
		return api.ErrArg
	}
	for n := range 200 {
		if e := record.Check(txn(1, set(long(n), ""))); e != want(n >= 1 && n <= 64) {
			t.Errorf("a key of %d bytes: %v", n, e)
		}
		if e := record.Check(txn(1, many(n)...)); e != want(n <= 32) {
			t.Errorf("%d writes: %v", n, e)
		}
		if e := record.Check(txn(n - 100)); e != want(n-100 >= 1) {
			t.Errorf("the number %d: %v", n-100, e)
		}
		if e := record.Check(txn(65536 + n - 100)); e != want(n <= 100) {
			t.Errorf("the number %d: %v", 65536+n-100, e)
		}
		if e := record.Check(txn(1, set("a", long(1024+n-100)))); e != want(n <= 100) {
			t.Errorf("a value of %d bytes: %v", 1024+n-100, e)
		}
		if e := record.Check(txn(1, api.Write{Key: "a", Val: long(n), Drop: true})); e != want(n == 0) {
			t.Errorf("Drop with %d bytes: %v", n, e)
		}
	}
}

// P5.1: the chapter's row.
func TestExamplesOfCheck(t *testing.T) {
	for i, x := range []api.Txn{
		txn(0), txn(65537), txn(1, set(long(65), "")), txn(1, set("", "")), txn(1, set("a", long(1025))),
		txn(1, api.Write{Key: "a", Val: "x", Drop: true}), txn(1, many(33)...),
	} {
		if e := record.Check(x); e != api.ErrArg {
			t.Errorf("%d: Check = %v", i, e)
		}
	}
}
