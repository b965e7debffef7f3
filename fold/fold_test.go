package fold_test

import (
	"math"
	"slices"
	"strings"
	"testing"

	"towpath/api"
	"towpath/fold"
)

// long: a text of n bytes.
func long(n int) string { return strings.Repeat("k", n) }

// set and drop: a write of a value, and one by which the key goes.
func set(key, val string) api.Write { return api.Write{Key: key, Val: val} }
func drop(key string) api.Write     { return api.Write{Key: key, Drop: true} }

// log: the transactions with these writes, in their order.
func log(writes ...[]api.Write) []api.Txn {
	l := make([]api.Txn, len(writes))
	for i, w := range writes {
		l[i] = api.Txn{Number: i + 1, Writes: w}
	}
	return l
}

// writes: those of one transaction.
func writes(w ...api.Write) []api.Write { return w }

// docLog: DOC.md's T.
func docLog() []api.Txn {
	return log(writes(set("a", "1")), writes(set("b", "2")), writes(set("a", "3"), drop("b")))
}

// empties: n transactions without a write, in their order.
func empties(n int) []api.Txn { return log(make([][]api.Write, n)...) }

// pairs: entries of texts, by twos.
func pairs(l ...string) []api.Entry {
	var out []api.Entry
	for i := 0; i+1 < len(l); i += 2 {
		out = append(out, api.Entry{Key: l[i], Val: l[i+1]})
	}
	return out
}

// stores: does Store answer these entries?
func stores(t *testing.T, l []api.Txn, first int, want ...string) {
	t.Helper()
	if x, e := fold.Store(l, first); e != api.OK || !slices.Equal(x, pairs(want...)) {
		t.Errorf("Store(%#v, %d) = %q, %v, want %q", l, first, x, e, want)
	}
}

// gets: does Get answer this value?
func gets(t *testing.T, l []api.Txn, first int, key, val string) {
	t.Helper()
	if v, ok, e := fold.Get(l, first, key); v != val || !ok || e != api.OK {
		t.Errorf("Get(%#v, %d, %q) = %q, %v, %v, want %q", l, first, key, v, ok, e, val)
	}
}

// lacks: does Get answer that there is none?
func lacks(t *testing.T, l []api.Txn, first int, key string) {
	t.Helper()
	if v, ok, e := fold.Get(l, first, key); v != "" || ok || e != api.OK {
		t.Errorf("Get(%#v, %d, %q) = %q, %v, %v, want none", l, first, key, v, ok, e)
	}
}

// scans: does Scan answer these entries?
func scans(t *testing.T, l []api.Txn, first int, key, end string, want ...string) {
	t.Helper()
	if x, e := fold.Scan(l, first, key, end); e != api.OK || !slices.Equal(x, pairs(want...)) {
		t.Errorf("Scan(%#v, %d, %q, %q) = %q, %v, want %q", l, first, key, end, x, e, want)
	}
}

// refused: do Store, Get and Scan answer this error, and nothing beside it?
func refused(t *testing.T, l []api.Txn, first int, want api.Errno) {
	t.Helper()
	if x, e := fold.Store(l, first); e != want || x != nil {
		t.Errorf("Store(%d) = %q, %v, want %v", first, x, e, want)
	}
	if x, e := fold.Scan(l, first, "", ""); e != want || x != nil {
		t.Errorf("Scan(%d) = %q, %v, want %v", first, x, e, want)
	}
	noGet(t, l, first, "a", want)
}

// noGet: does Get answer this error, and nothing beside it?
func noGet(t *testing.T, l []api.Txn, first int, key string, want api.Errno) {
	t.Helper()
	if v, ok, e := fold.Get(l, first, key); e != want || v != "" || ok {
		t.Errorf("Get(%d, %q) = %q, %v, %v, want %v", first, key, v, ok, e, want)
	}
}

// P7.1: the chapter's rows.
func TestExamplesOfStore(t *testing.T) {
	stores(t, docLog(), 0)
	stores(t, docLog(), 2, "a", "1", "b", "2")
	stores(t, docLog(), 3, "a", "3")
	refused(t, docLog(), 4, api.ErrArg)
	refused(t, []api.Txn{{Number: 2}}, 0, api.ErrOrder)
	refused(t, log(writes(set("", "x"))), 0, api.ErrArg)
	stores(t, log(writes(set("a", "1"), drop("a"), set("a", "2"))), 1, "a", "2")
}

// P7.2: the chapter's rows.
func TestExamplesOfGetAndScan(t *testing.T) {
	gets(t, docLog(), 2, "b", "2")
	lacks(t, docLog(), 3, "b")
	noGet(t, docLog(), 1, "", api.ErrArg)
	noGet(t, docLog(), -1, "a", api.ErrArg)
	scans(t, docLog(), 2, "", "", "a", "1", "b", "2")
	scans(t, docLog(), 2, "b", "", "b", "2")
	scans(t, docLog(), 2, "", "b", "a", "1")
	scans(t, docLog(), 2, "c", "a")
}

// P7.1, P7.2: a log of none, and transactions that write nothing.
func TestFoldOfNone(t *testing.T) {
	for _, l := range [][]api.Txn{nil, {}, empties(1), empties(3), {{Number: 1, Writes: []api.Write{}}}} {
		for first := range len(l) + 1 {
			stores(t, l, first)
			scans(t, l, first, "", "")
			lacks(t, l, first, "a")
		}
		refused(t, l, -1, api.ErrArg)
		refused(t, l, len(l)+1, api.ErrArg)
	}
}

// P7.1: within one transaction each write, in order; a drop of what is not there is nothing.
func TestStoreOfOneTransaction(t *testing.T) {
	for _, c := range []struct {
		writes []api.Write
		want   []string
	}{
		{writes(set("a", "")), []string{"a", ""}}, // an empty value is one
		{writes(drop("a")), nil},
		{writes(set("a", "1"), drop("a")), nil},
		{writes(drop("a"), set("a", "1")), []string{"a", "1"}},
		{writes(set("a", "1"), set("a", "2")), []string{"a", "2"}},
		{writes(set("a", "1"), set("a", "")), []string{"a", ""}},
		{writes(set("a", "1"), drop("b"), drop("a"), set("b", "2")), []string{"b", "2"}},
		{writes(set("b", "1"), set("a", "2"), set("b", "3")), []string{"a", "2", "b", "3"}},
		{writes(set("a", "1"), drop("a"), drop("a")), nil},
		{writes(set("aa", "1"), drop("a")), []string{"aa", "1"}},
	} {
		stores(t, log(c.writes), 1, c.want...)
		stores(t, log(c.writes), 0)
	}
}

// P7.1: what a transaction writes stays till a later one writes it.
func TestStoreOfSeveralTransactions(t *testing.T) {
	l := log(writes(set("a", "1"), set("c", "1")), writes(drop("a")), nil, writes(drop("a"), set("b", "")), writes(set("a", "5"), set("c", "")), writes(set("a", "6")))
	stores(t, l, 0)
	stores(t, l, 1, "a", "1", "c", "1")
	stores(t, l, 2, "c", "1")
	stores(t, l, 3, "c", "1")
	stores(t, l, 4, "b", "", "c", "1")
	stores(t, l, 5, "a", "5", "b", "", "c", "")
	stores(t, l, 6, "a", "6", "b", "", "c", "")
	gets(t, l, 4, "b", "")
	lacks(t, l, 3, "b")
	lacks(t, l, 4, "a")
	gets(t, l, 5, "a", "5")
}

// edgeKeys: keys by rising bytes; the longest one that may be, and such as are no texts, among them.
func edgeKeys() []string {
	return []string{
		"\x00", "\x00\x00", "\x01", " ", "0", "00", "1", "10", "2", "A", "Z", "a", "a\x00", "aa", "a\xff", "b",
		long(1), long(2), long(api.MaxKey - 1), long(api.MaxKey), "é", "€", "\U0001f600", "\xfe", "\xff", "\xff\x00", "\xff\xff",
	}
}

// edgeLog: all edge keys, written in no order of theirs; each has its own bytes behind a v as its value.
func edgeLog() []api.Txn {
	keys := edgeKeys()
	var w [][]api.Write
	for i := range keys {
		key := keys[i*7%len(keys)]
		w = append(w, writes(set(key, "v"+key)))
	}
	return log(w...)
}

// P7.1, P7.2: keys are in order as their bytes are.
func TestOrderOfKeys(t *testing.T) {
	l, keys := edgeLog(), edgeKeys()
	var want []string
	for i, key := range keys {
		if i > 0 && keys[i-1] >= key {
			t.Fatalf("%q, %q", keys[i-1], key)
		}
		want = append(want, key, "v"+key)
	}
	stores(t, l, len(l), want...)
	for i, key := range keys {
		gets(t, l, len(l), key, "v"+key)
		scans(t, l, len(l), key, "", want[2*i:]...)
		scans(t, l, len(l), key+"\x00", "", pairsBehind(want, key)...)
		for j, end := range keys {
			if i <= j {
				scans(t, l, len(l), key, end, want[2*i:2*j]...)
			} else {
				scans(t, l, len(l), key, end)
			}
		}
		if i > 0 {
			scans(t, l, len(l), "", key, want[:2*i]...)
		}
	}
}

// pairsBehind: of texts by twos, those whose first is above a key.
func pairsBehind(l []string, key string) []string {
	var out []string
	for i := 0; i+1 < len(l); i += 2 {
		if l[i] > key {
			out = append(out, l[i], l[i+1])
		}
	}
	return out
}

// P7.2: the bounds of a stretch may be any texts, also such as no key may be.
func TestScanOfAnyTexts(t *testing.T) {
	l := log(writes(set("a", "1"), set(long(api.MaxKey), "2"), set("z", "3")))
	top := long(api.MaxKey + 1)
	scans(t, l, 1, top, "", "z", "3")
	scans(t, l, 1, "", top, "a", "1", long(api.MaxKey), "2")
	scans(t, l, 1, long(100000), "", "z", "3")
	scans(t, l, 1, "\x00", long(100000), "a", "1", long(api.MaxKey), "2")
	scans(t, l, 1, long(api.MaxKey), top, long(api.MaxKey), "2")
	scans(t, l, 1, top, long(100000))
	scans(t, l, 1, "a", "a")
	scans(t, l, 1, "b", "a")
	scans(t, l, 1, "\xff\xff", "")
	scans(t, l, 1, "", "\x00")
	scans(t, l, 1, "a\x00", "z", long(api.MaxKey), "2")
	refused(t, l, 2, api.ErrArg)
	for _, first := range []int{-1, 2, math.MinInt, math.MaxInt} {
		if x, e := fold.Scan(l, first, top, "a"); x != nil || e != api.ErrArg {
			t.Errorf("Scan(%d) = %q, %v", first, x, e)
		}
	}
}

// P7.2: all lengths of a key.
func TestGetOfAllLengths(t *testing.T) {
	var w [][]api.Write
	for n := 1; n <= api.MaxKey; n++ {
		w = append(w, writes(set(long(n), long(n*16))))
	}
	l := log(w...)
	for n := 1; n <= api.MaxKey; n++ {
		gets(t, l, len(l), long(n), long(n*16))
		lacks(t, l, n-1, long(n))
	}
	for _, key := range []string{"", long(api.MaxKey + 1), long(api.MaxKey + 2), long(5000)} {
		for _, first := range []int{0, 1, len(l), -1, len(l) + 1} {
			noGet(t, l, first, key, api.ErrArg)
		}
		noGet(t, nil, 0, key, api.ErrArg)
	}
}

// P7.1, P7.2: first is from 0 to as many as there are.
func TestFirstOutOfItsBounds(t *testing.T) {
	for _, l := range [][]api.Txn{nil, docLog(), empties(1), empties(300)} {
		for _, first := range []int{-1, -2, len(l) + 1, len(l) + 2, math.MinInt, math.MaxInt, 1 << 32, -1 << 32} {
			refused(t, l, first, api.ErrArg)
			noGet(t, l, first, "", api.ErrArg)
		}
		if _, e := fold.Store(l, len(l)); e != api.OK {
			t.Errorf("Store of all %d = %v", len(l), e)
		}
	}
}

// R4: what is handed in is not changed, its spare room neither; an answer shares no memory with it, nor with another answer.
func TestFoldKeepsToItself(t *testing.T) {
	room := []api.Write{set("b", "1"), set("a", "2"), set("spare", "s")}
	all := []api.Txn{{Number: 1, Writes: room[:2]}, {Number: 2, Writes: []api.Write{drop("b")}}, {Number: 9}}
	l := all[:2]
	want := pairs("a", "2", "b", "1")
	x, _ := fold.Store(l, 1)
	y, _ := fold.Store(l, 1)
	z, _ := fold.Scan(l, 1, "", "")
	fold.Get(l, 2, "a")
	fold.Writer(l, 3, "a")
	fold.Chained(l, 1, 2)
	for i := range x[:cap(x)] {
		x[:cap(x)][i] = api.Entry{Key: "spoilt"}
	}
	if !slices.Equal(y, want) || !slices.Equal(z, want) {
		t.Errorf("one answer shows in another: %q, %q", y, z)
	}
	for i := range z[:cap(z)] {
		z[:cap(z)][i] = api.Entry{Key: "spoilt"}
	}
	if !slices.Equal(room, writes(set("b", "1"), set("a", "2"), set("spare", "s"))) || all[2].Number != 9 || all[2].Writes != nil || len(all[0].Writes) != 2 {
		t.Errorf("changed: %v, %v", room, all)
	}
	stores(t, l, 1, "a", "2", "b", "1")
	room[0] = set("q", "q")
	if !slices.Equal(y, want) {
		t.Errorf("a later change shows in the answer: %q", y)
	}
}

// R4: with an empty log behind spare room nothing is read of the room.
func TestSpareRoomIsNotRead(t *testing.T) {
	l := docLog()
	stores(t, l[:0], 0)
	refused(t, l[:0], 1, api.ErrArg)
	refused(t, l[:2], 3, api.ErrArg)
	stores(t, l[:2], 2, "a", "1", "b", "2")
	stores(t, []api.Txn{{Number: 1, Writes: l[2].Writes[:1]}}, 1, "a", "3")
}
