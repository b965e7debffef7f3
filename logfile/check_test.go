package logfile_test

import (
	"math"
	"slices"
	"strings"
	"testing"

	"towpath/api"
	"towpath/logfile"
)

// long: a text of n bytes.
func long(n int) string { return strings.Repeat("k", n) }

// set and drop: a write of a value, and one by which the key goes.
func set(key, val string) api.Write { return api.Write{Key: key, Val: val} }
func drop(key string) api.Write     { return api.Write{Key: key, Drop: true} }

// txn: the transaction of this number with these writes.
func txn(number int, writes ...api.Write) api.Txn {
	return api.Txn{Number: number, Writes: writes}
}

// chapterLog: the chapter's T.
func chapterLog() []api.Txn {
	return []api.Txn{txn(1, set("a", "x")), txn(2)}
}

// empties: n transactions without a write, in their order.
func empties(n int) []api.Txn {
	l := make([]api.Txn, n)
	for i := range l {
		l[i].Number = i + 1
	}
	return l
}

// with: n transactions without a write, but the one at the place i is t.
func with(n, i int, t api.Txn) []api.Txn {
	l := empties(n)
	l[i] = t
	return l
}

// biggest: a transaction of as many bytes as any that may be.
func biggest(number int) api.Txn {
	t := txn(number)
	for range api.MaxWrites {
		t.Writes = append(t.Writes, set(long(api.MaxKey), long(api.MaxVal)))
	}
	return t
}

// mayBe: logs that may be, at the edges that the document names.
func mayBe() [][]api.Txn {
	return [][]api.Txn{
		nil, {}, chapterLog(), empties(1), empties(2), empties(127), empties(129), empties(300),
		{txn(1, set("a", "1")), txn(2, set("b", "2")), txn(3, set("a", "3"), drop("b"))},
		{txn(1, set("a", ""), drop("a"), set("a", "2")), txn(2), txn(3, drop("a"))},
		{{Number: 1, Writes: []api.Write{}}, txn(2, set("\x00", "\xff\x00"), drop("\xff"))},
		{txn(1, set(long(api.MaxKey), long(api.MaxVal)))},
		{biggest(1), txn(2), biggest(3)},
		with(200, 130, txn(131, set("q", long(api.MaxVal)))),
	}
}

// faulty: a log that may not be, and why.
type faulty struct {
	l []api.Txn
	e api.Errno
}

// mayNotBe: logs that may not be, at each place of a log.
func mayNotBe() []faulty {
	out := []faulty{
		{[]api.Txn{{}}, api.ErrArg},
		{[]api.Txn{txn(api.MaxLog)}, api.ErrOrder},
		{[]api.Txn{txn(api.MaxLog + 1)}, api.ErrArg}, // it may not be whatever its turn
		{[]api.Txn{txn(math.MinInt)}, api.ErrArg},
		{[]api.Txn{txn(math.MaxInt)}, api.ErrArg},
		{[]api.Txn{txn(1<<32 + 1)}, api.ErrArg},
		{[]api.Txn{txn(2), txn(1)}, api.ErrOrder},
		{[]api.Txn{txn(1), txn(3), txn(2)}, api.ErrOrder},
		{[]api.Txn{txn(1), txn(1), txn(2)}, api.ErrOrder},
		{[]api.Txn{txn(2), txn(3), txn(4)}, api.ErrOrder},
		{[]api.Txn{txn(1), txn(3), txn(3, set("", ""))}, api.ErrOrder}, // the first transaction counts
		{[]api.Txn{txn(1), txn(2, set("", "")), txn(7)}, api.ErrArg},   // likewise
		{[]api.Txn{txn(1), txn(7, set("", "")), txn(3)}, api.ErrArg},   // of one transaction ErrArg counts
		{[]api.Txn{txn(1), txn(0), txn(2)}, api.ErrArg},
		{[]api.Txn{txn(1), txn(-1)}, api.ErrArg},
	}
	for _, place := range []int{0, 1, 4} {
		for _, w := range []api.Write{
			{}, drop(""), set(long(api.MaxKey+1), "x"), set("a", long(api.MaxVal+1)), {Key: "a", Val: "x", Drop: true},
		} {
			out = append(out, faulty{with(5, place, txn(place+1, set("b", "y"), w)), api.ErrArg})
		}
		out = append(out,
			faulty{with(5, place, api.Txn{Number: place + 1, Writes: slices.Repeat([]api.Write{set("a", "x")}, api.MaxWrites+1)}), api.ErrArg},
			faulty{with(5, place, txn(place)), []api.Errno{api.ErrArg, api.ErrOrder}[min(place, 1)]},
			faulty{with(5, place, txn(place+2)), api.ErrOrder},
			faulty{with(5, place, txn(api.MaxLog)), api.ErrOrder},
			faulty{with(5, place, txn(api.MaxLog+1)), api.ErrArg})
	}
	return out
}

// P6.3
func TestCheckOfWhatMayBe(t *testing.T) {
	for i, l := range mayBe() {
		if e := logfile.Check(l); e != api.OK {
			t.Errorf("%d: Check = %v", i, e)
		}
	}
}

// P6.3, and of Encode (P6.1) and New (P6.4) the same.
func TestWhatMayNotBe(t *testing.T) {
	for i, c := range mayNotBe() {
		if e := logfile.Check(c.l); e != c.e {
			t.Errorf("%d: Check = %v, want %v", i, e, c.e)
		}
		if b, e := logfile.Encode(c.l); e != c.e || b != nil {
			t.Errorf("%d: Encode = %x, %v, want %v", i, b, e, c.e)
		}
		if s, e := logfile.New(c.l); e != c.e || s != nil {
			t.Errorf("%d: New = %v, %v, want %v", i, s, e, c.e)
		}
	}
}

// P6.3: the chapter's row.
func TestExamplesOfCheck(t *testing.T) {
	for i, c := range []faulty{
		{[]api.Txn{txn(2)}, api.ErrOrder},
		{[]api.Txn{txn(1), txn(1)}, api.ErrOrder},
		{[]api.Txn{txn(1, set("", "x"))}, api.ErrArg},
	} {
		if e := logfile.Check(c.l); e != c.e {
			t.Errorf("%d: Check = %v, want %v", i, e, c.e)
		}
	}
}

// P6.3: as many as may be, and one more.
func TestCheckOfTheLongest(t *testing.T) {
	if e := logfile.Check(empties(api.MaxLog)); e != api.OK {
		t.Errorf("Check of MaxLog = %v", e)
	}
	if e := logfile.Check(empties(api.MaxLog + 1)); e != api.ErrArg {
		t.Errorf("Check of one more = %v", e)
	}
	if e := logfile.Check(with(api.MaxLog+1, api.MaxLog, txn(1))); e != api.ErrOrder {
		t.Errorf("Check of one more that begins again = %v", e)
	}
}

// P6.3: each call begins at 1 again.
func TestCheckKeepsNothing(t *testing.T) {
	for range 3 {
		if e := logfile.Check(chapterLog()); e != api.OK {
			t.Errorf("Check = %v", e)
		}
		if e := logfile.Check(empties(5)[2:]); e != api.ErrOrder {
			t.Errorf("Check = %v", e)
		}
	}
}
