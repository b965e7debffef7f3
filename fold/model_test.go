package fold_test

import (
	"math"
	"math/rand"
	"slices"
	"testing"

	"towpath/api"
	"towpath/fold"
	"towpath/record"
)

// refusedByAll: do all calls answer this error of the log, whatever the other arguments are?
func refusedByAll(t *testing.T, l []api.Txn, want api.Errno) {
	t.Helper()
	for _, n := range []int{0, 1, len(l), len(l) + 1, -1, math.MaxInt} {
		refused(t, l, n, want)
		noGet(t, l, n, "", want)
		noWriter(t, l, n, "a", want)
		noWriter(t, l, n, "", want)
		noChain(t, l, n, n, want)
		noChain(t, l, 1, n, want)
		noChain(t, l, n, 2, want)
	}
}

// P7.1 to P7.4: what may not be of a log is told first, transaction by transaction, also behind the first so many.
func TestLogsThatMayNotBe(t *testing.T) {
	at := func(n, i int, x api.Txn) []api.Txn {
		l := empties(n)
		l[i] = x
		return l
	}
	two := func(i int, x api.Txn, j int, y api.Txn) []api.Txn {
		l := at(5, i, x)
		l[j] = y
		return l
	}
	bad := func(number int) api.Txn { return api.Txn{Number: number, Writes: writes(set("", ""))} }
	for _, c := range []struct {
		l []api.Txn
		e api.Errno
	}{
		{[]api.Txn{{}}, api.ErrArg},
		{[]api.Txn{{Number: 2}}, api.ErrOrder},
		{[]api.Txn{{Number: api.MaxLog}}, api.ErrOrder},
		{[]api.Txn{{Number: api.MaxLog + 1}}, api.ErrArg},
		{[]api.Txn{{Number: -1}}, api.ErrArg},
		{[]api.Txn{{Number: math.MinInt}}, api.ErrArg},
		{[]api.Txn{{Number: 1<<32 + 1}}, api.ErrArg},
		{[]api.Txn{bad(2)}, api.ErrArg}, // it may not be, and is not its turn's
		{at(5, 4, api.Txn{Number: 6}), api.ErrOrder},
		{at(5, 4, api.Txn{Number: 4}), api.ErrOrder},
		{at(5, 2, api.Txn{Number: 1}), api.ErrOrder},
		{at(5, 2, api.Txn{}), api.ErrArg},
		{at(5, 4, bad(5)), api.ErrArg},
		{two(1, api.Txn{Number: 9}, 3, bad(4)), api.ErrOrder},
		{two(1, bad(2), 3, api.Txn{Number: 9}), api.ErrArg},
		{two(0, api.Txn{Number: 2}, 1, api.Txn{Number: 1}), api.ErrOrder},
		{at(5, 4, api.Txn{Number: 5, Writes: writes(set(long(api.MaxKey+1), ""))}), api.ErrArg},
		{at(5, 4, api.Txn{Number: 5, Writes: writes(set("a", long(api.MaxVal+1)))}), api.ErrArg},
		{at(5, 4, api.Txn{Number: 5, Writes: writes(api.Write{Key: "a", Val: "x", Drop: true})}), api.ErrArg},
		{at(5, 4, api.Txn{Number: 5, Writes: slices.Repeat(writes(set("a", "x")), api.MaxWrites+1)}), api.ErrArg},
	} {
		refusedByAll(t, c.l, c.e)
	}
	full := log(slices.Repeat(writes(set(long(api.MaxKey), long(api.MaxVal))), api.MaxWrites))
	stores(t, full, 1, long(api.MaxKey), long(api.MaxVal))
}

// someLog: a log that may be, of less than most transactions and few keys, by the dice.
func someLog(dice *rand.Rand, most int) []api.Txn {
	l := empties(dice.Intn(most))
	keys := 1 + dice.Intn(8)
	for i := range l {
		for range dice.Intn(1 + dice.Intn(5)) {
			w := api.Write{Key: string([]byte{byte(dice.Intn(keys) * 37)})}
			if w.Drop = dice.Intn(3) == 0; !w.Drop {
				w.Val = string(rune('0' + dice.Intn(10)))
			}
			l[i].Writes = append(l[i].Writes, w)
		}
	}
	return l
}

// put: the entries, by rising keys, with one write more.
func put(store []api.Entry, w api.Write) []api.Entry {
	var out []api.Entry
	for _, x := range store {
		if x.Key < w.Key {
			out = append(out, x)
		}
	}
	if !w.Drop {
		out = append(out, api.Entry{Key: w.Key, Val: w.Val})
	}
	for _, x := range store {
		if x.Key > w.Key {
			out = append(out, x)
		}
	}
	return out
}

// touches: does a transaction write a key?
func touches(x api.Txn, key string) bool {
	return slices.ContainsFunc(x.Writes, func(w api.Write) bool { return w.Key == key })
}

// neighbours: is some key written by both?
func neighbours(x, y api.Txn) bool {
	return slices.ContainsFunc(x.Writes, func(w api.Write) bool { return touches(y, w.Key) })
}

// chains: who is chained to whom, by the document's words: each step of a chain is one of two neighbours.
func chains(l []api.Txn) [][]bool {
	out := make([][]bool, len(l)+1)
	for i := range out {
		out[i] = make([]bool, len(l)+1)
	}
	for i := len(l); i >= 1; i-- {
		for next := i + 1; next <= len(l); next++ {
			if !neighbours(l[i-1], l[next-1]) {
				continue
			}
			out[i][next] = true
			for j := range out[next] {
				out[i][j] = out[i][j] || out[next][j]
			}
		}
	}
	return out
}

// count: the same transaction with just the writes that count.
func count(x api.Txn) api.Txn {
	out := api.Txn{Number: x.Number}
	for i, w := range x.Writes {
		if !touches(api.Txn{Writes: x.Writes[i+1:]}, w.Key) {
			out.Writes = append(out.Writes, w)
		}
	}
	return out
}

// storeOf: Store of what may be.
func storeOf(t *testing.T, l []api.Txn, first int) []api.Entry {
	t.Helper()
	x, e := fold.Store(l, first)
	if e != api.OK {
		t.Fatalf("Store(%#v, %d) = %v", l, first, e)
	}
	return x
}

// bounds: texts that may stand at the ends of a stretch of someLog's keys.
func bounds() []string {
	out := []string{"", "\x00\x00", "%\x00", long(api.MaxKey + 1), "\xff\xff"}
	for i := range 9 {
		out = append(out, string([]byte{byte(i * 37)}))
	}
	return out
}

// asStore: do Get and Scan answer what these entries have?
func asStore(t *testing.T, l []api.Txn, first int, want []api.Entry) {
	t.Helper()
	for _, key := range bounds() {
		at := slices.IndexFunc(want, func(x api.Entry) bool { return x.Key == key })
		switch {
		case key == "" || len(key) > api.MaxKey:
			noGet(t, l, first, key, api.ErrArg)
		case at < 0:
			lacks(t, l, first, key)
		default:
			gets(t, l, first, key, want[at].Val)
		}
		for _, end := range bounds() {
			var part []api.Entry
			for _, x := range want {
				if x.Key >= key && (end == "" || x.Key < end) {
					part = append(part, x)
				}
			}
			if got, e := fold.Scan(l, first, key, end); e != api.OK || !slices.Equal(got, part) {
				t.Fatalf("Scan(%#v, %d, %q, %q) = %q, %v, want %q", l, first, key, end, got, e, part)
			}
		}
	}
}

// P7.1, P7.2, P7.5: Store of one more is Store with the writes of that transaction; of each key the last one counts; Get and Scan are what Store has.
func TestFoldByTheDice(t *testing.T) {
	dice := rand.New(rand.NewSource(7))
	gone := 0
	for range 300 {
		l := someLog(dice, 14)
		less := empties(len(l))
		for i := range l {
			less[i] = count(l[i])
		}
		var want []api.Entry
		for first := range len(l) + 1 {
			if first > 0 {
				for _, w := range l[first-1].Writes {
					was := len(want)
					if want = put(want, w); len(want) < was {
						gone++
					}
				}
			}
			if got := storeOf(t, l, first); !slices.Equal(got, want) {
				t.Fatalf("Store(%#v, %d) = %q, want %q", l, first, got, want)
			}
			if got := storeOf(t, less, first); !slices.Equal(got, want) {
				t.Fatalf("Store of the writes that count of %#v, %d = %q, want %q", l, first, got, want)
			}
			if got := storeOf(t, l[:first], first); !slices.Equal(got, want) {
				t.Fatalf("Store of %d alone of %#v = %q, want %q", first, l, got, want)
			}
			asStore(t, l, first, want)
		}
	}
	if gone < 100 {
		t.Errorf("only %d keys went", gone)
	}
}

// P7.3: held against a look at each one ahead.
func TestWriterByTheDice(t *testing.T) {
	dice := rand.New(rand.NewSource(8))
	for range 500 {
		l := someLog(dice, 14)
		for _, key := range bounds() {
			if key == "" || len(key) > api.MaxKey {
				continue
			}
			want := 0
			for number := 1; number <= len(l)+1; number++ {
				writer(t, l, number, key, want)
				if number <= len(l) && touches(l[number-1], key) {
					want = number
				}
			}
		}
	}
}

// P7.4, P7.5: held against the document's words; and what follows from them.
func TestChainedByTheDice(t *testing.T) {
	dice := rand.New(rand.NewSource(9))
	seen := map[bool]int{}
	for range 1500 {
		l := someLog(dice, 12)
		want := chains(l)
		for j := 1; j <= len(l); j++ {
			ahead := 0
			for i := 1; i < j; i++ {
				chained(t, l, i, j, want[i][j])
				seen[want[i][j]]++
				if neighbours(l[i-1], l[j-1]) {
					ahead++
					chained(t, l, i, j, true)
				}
			}
			for _, w := range l[j-1].Writes {
				if ahead == 0 {
					writer(t, l, j, w.Key, 0)
				}
			}
		}
	}
	if seen[true] < 1000 || seen[false] < 1000 {
		t.Errorf("chained and not: %v", seen)
	}
}

// P7.5: where a and b are chained, and b and c, a and c are.
func TestChainsGoOn(t *testing.T) {
	dice := rand.New(rand.NewSource(10))
	is := func(l []api.Txn, i, j int) bool {
		ok, e := fold.Chained(l, i, j)
		if e != api.OK {
			t.Fatalf("Chained(%#v, %d, %d) = %v", l, i, j, e)
		}
		return ok
	}
	for range 300 {
		l := someLog(dice, 10)
		for a := 1; a <= len(l); a++ {
			for b := a + 1; b <= len(l); b++ {
				for c := b + 1; c <= len(l); c++ {
					if is(l, a, b) && is(l, b, c) && !is(l, a, c) {
						t.Fatalf("%#v: %d, %d, %d", l, a, b, c)
					}
				}
			}
		}
	}
}

// logOf: a log made of any bytes; it may be, or not.
func logOf(b []byte) []api.Txn {
	var l []api.Txn
	for i := 0; i+2 < len(b); i += 3 {
		x := api.Txn{Number: len(l) + 1}
		if b[i] > 250 {
			x.Number = int(int8(b[i+1]))
		}
		for n := range int(b[i] % 5) {
			w := api.Write{Key: string([]byte{b[i+1] >> n & 7}), Drop: b[i+2]>>n&1 == 1}
			if !w.Drop {
				w.Val = string([]byte{b[i+2]})
			}
			x.Writes = append(x.Writes, w)
		}
		if b[i] == 249 {
			x.Writes = append(x.Writes, api.Write{Key: string(b[i : i+int(b[i+1]%3)]), Val: "x", Drop: b[i+2]&1 == 1})
		}
		l = append(l, x)
	}
	return l
}

// plainCheck: what is wrong of a log, by the chapter's words.
func plainCheck(l []api.Txn) api.Errno {
	for i, x := range l {
		switch {
		case record.Check(x) != api.OK:
			return api.ErrArg
		case x.Number != i+1:
			return api.ErrOrder
		}
	}
	return api.OK
}

func FuzzFold(f *testing.F) {
	f.Add([]byte{1, 1, 0, 1, 2, 0, 2, 3, 1}, 1, 3, "\x01")
	f.Add([]byte{251, 2, 0}, 0, 0, "")
	f.Add([]byte{249, 0, 1, 0, 0, 0}, -1, 9, long(65))
	f.Fuzz(func(t *testing.T, b []byte, i, j int, key string) {
		l := logOf(b[:min(len(b), 90)])
		if e := plainCheck(l); e != api.OK {
			refusedByAll(t, l, e)
			return
		}
		keyFits := key != "" && len(key) <= api.MaxKey
		if i < 0 || i > len(l) {
			refused(t, l, i, api.ErrArg)
		} else {
			var want []api.Entry
			for _, x := range l[:i] {
				for _, w := range x.Writes {
					want = put(want, w)
				}
			}
			if got := storeOf(t, l, i); !slices.Equal(got, want) {
				t.Fatalf("Store(%#v, %d) = %q, want %q", l, i, got, want)
			}
			asStore(t, l, i, want)
		}
		if n, e := fold.Writer(l, j, key); (e == api.OK) != (keyFits && j >= 1 && j <= len(l)+1) || e == api.OK && n > 0 && !touches(l[n-1], key) {
			t.Fatalf("Writer(%#v, %d, %q) = %d, %v", l, j, key, n, e)
		}
		if 1 <= i && i < j && j <= len(l) {
			chained(t, l, i, j, chains(l)[i][j])
		} else {
			noChain(t, l, i, j, api.ErrArg)
		}
	})
}
