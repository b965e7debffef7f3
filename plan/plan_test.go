package plan_test

import (
	"fmt"
	"math"
	"reflect"
	"slices"
	"strings"
	"testing"

	"towpath/api"
	"towpath/count"
	"towpath/disk"
	"towpath/fold"
	"towpath/logfile"
	"towpath/plan"
	"towpath/replica"
)

// put and drop: a write of a value, and one by which a key goes.
func put(key, val string) api.Write { return api.Write{Key: key, Val: val} }
func drop(key string) api.Write     { return api.Write{Key: key, Drop: true} }

// ws: writes of one transaction.
func ws(l ...api.Write) []api.Write { return l }

// numbered: a log of transactions with these writes.
func numbered(l ...[]api.Write) []api.Txn {
	var log []api.Txn
	for i, w := range l {
		log = append(log, api.Txn{Number: i + 1, Writes: w})
	}
	return log
}

// writing: a log whose transactions each write the keys that a text names, a letter each.
func writing(texts ...string) []api.Txn {
	l := make([][]api.Write, len(texts))
	for i, keys := range texts {
		for _, key := range keys {
			l[i] = append(l[i], put(string(key), fmt.Sprint(i+1)))
		}
	}
	return numbered(l...)
}

// logT is the document's log.
func logT() []api.Txn {
	return numbered(ws(put("a", "1")), ws(put("b", "2")), ws(put("a", "3"), drop("b")))
}

// like: a configuration.
func like(lanes, shards, window, queue int) api.Config {
	return api.Config{Lanes: lanes, Shards: shards, Window: window, Queue: queue}
}

// fed: a replica as a plan is gone through on it.
func fed(t testing.TB, c api.Config, l []api.Txn) *replica.Replica {
	t.Helper()
	s, e := logfile.New(l)
	d, f := disk.New(0)
	r, code := replica.New(c, s, d)
	if e != api.OK || f != api.OK || code != api.OK || r.Feed(len(l)) != api.OK {
		t.Fatalf("no replica: %v, %v, %v", e, f, code)
	}
	return r
}

// walk: a plan is gone through; look is told each event.
func walk(t testing.TB, c api.Config, l []api.Txn, p []int, look func(r *replica.Replica, e api.Event)) *replica.Replica {
	t.Helper()
	r := fed(t, c, l)
	for n, task := range p {
		e, code := r.Step(task)
		if code != api.OK {
			t.Fatalf("%v: the step %d of %s: %v", c, n, brief(p), code)
		}
		look(r, e)
	}
	return r
}

// brief: the beginning of what it is, for a log may be long.
func brief(x any) string {
	s := fmt.Sprint(x)
	return s[:min(len(s), 300)]
}

// takes: how many steps the transactions take, by count.Txn.
func takes(t testing.TB, l []api.Txn) int {
	t.Helper()
	all := 0
	for _, x := range l {
		n, e := count.Txn(x, false)
		if e != api.OK {
			t.Fatal(e)
		}
		all += n
	}
	return all
}

// apart: there is a plan behind which both are held and neither is there. (P23.1)
func apart(t testing.TB, c api.Config, l []api.Txn, i, j int) []int {
	t.Helper()
	p, code := plan.Apart(c, l, i, j)
	if code != api.OK {
		t.Fatalf("Apart(%v, %s, %d, %d): %v", c, brief(l), i, j, code)
	}
	there := map[int]int{}
	r := walk(t, c, l, p, func(_ *replica.Replica, e api.Event) {
		if e.Kind == api.EvGate {
			there[e.Number]++
		}
	})
	held := r.Held()
	if !slices.Contains(held, i) || !slices.Contains(held, j) || r.Mark() >= i || there[i]+there[j] > 0 {
		t.Fatalf("Apart(%v, %s, %d, %d) = %s: held %v, mark %d, there %s", c, brief(l), i, j, brief(p), held, r.Mark(), brief(there))
	}
	if most := takes(t, l[:j]); len(p) > most || most > api.MaxPlan {
		t.Fatalf("Apart(%v, %s, %d, %d): %d steps, at most %d", c, brief(l), i, j, len(p), most)
	}
	return p
}

// serial: there is a plan behind which it is over, and along which one transaction follows the other. (P23.2)
func serial(t testing.TB, c api.Config, l []api.Txn) []int {
	t.Helper()
	p, code := plan.Serial(c, l)
	if code != api.OK {
		t.Fatalf("Serial(%v, %s): %v", c, brief(l), code)
	}
	open := map[int]int{}
	r := walk(t, c, l, p, func(r *replica.Replica, e api.Event) {
		switch e.Kind {
		case api.EvDispatch:
			if len(open) > 0 {
				t.Fatalf("Serial(%v, %s): %v while %v is open", c, brief(l), e, open)
			}
			open[e.Number]++
		case api.EvGate:
			delete(open, e.Number)
		}
		if held := r.Held(); len(held) > 1 {
			t.Fatalf("Serial(%v, %s): %v are held", c, brief(l), held)
		}
	})
	want, _ := fold.Store(l, len(l))
	if !r.Over() || r.Mark() != len(l) || !slices.Equal(r.Store(), want) || len(p) != takes(t, l) {
		t.Fatalf("Serial(%v, %s) = %s: over %v, mark %d, %s", c, brief(l), brief(p), r.Over(), r.Mark(), brief(r.Store()))
	}
	return p
}

// noPair, noSerial: there is no plan, but this error.
func noPair(t testing.TB, c api.Config, l []api.Txn, i, j int, want api.Errno) {
	t.Helper()
	if p, code := plan.Apart(c, l, i, j); code != want || len(p) != 0 {
		t.Fatalf("Apart(%v, %s, %d, %d) = %s, %d, want %d", c, brief(l), i, j, brief(p), code, want)
	}
}

func noSerial(t testing.TB, c api.Config, l []api.Txn, want api.Errno) {
	t.Helper()
	if p, code := plan.Serial(c, l); code != want || len(p) != 0 {
		t.Fatalf("Serial(%v, %s) = %s, %d, want %d", c, brief(l), brief(p), code, want)
	}
}

// P23.1, P23.2: the chapter's rows.
func TestExamples(t *testing.T) {
	c, l := like(2, 1, 4, 1), logT()
	apart(t, c, l, 1, 2)
	noPair(t, c, l, 1, 3, api.ErrChain)
	noPair(t, c, l, 2, 2, api.ErrArg)
	noPair(t, c, l, 1, 4, api.ErrArg)
	noPair(t, like(1, 1, 4, 1), l, 1, 2, api.ErrArg)
	noPair(t, like(2, 1, 1, 1), l, 1, 2, api.ErrOrder)
	if p := serial(t, like(1, 1, 4, 1), l); len(p) != 23 {
		t.Errorf("%d steps", len(p))
	}
	noSerial(t, api.Config{}, l, api.ErrConfig)
	noSerial(t, like(1, 1, 4, 1), l[1:], api.ErrArg)
}

// P23.1: what stands between the two: chained to the first one, to the second one, to both sides of nothing, or without writes.
func TestBetweenTheTwo(t *testing.T) {
	for _, x := range []struct {
		keys []string
		i, j int
	}{
		{[]string{"a", "a", "a", "b"}, 1, 4},
		{[]string{"a", "b", "b", "b"}, 1, 4},
		{[]string{"a", "b", "a", "b"}, 1, 4},
		{[]string{"a", "c", "c", "b"}, 1, 4},
		{[]string{"a", "ac", "cd", "b", "be", "e"}, 1, 6},
		{[]string{"a", "ac", "be", "cd", "e", "bf", "d", "f"}, 1, 8},
		{[]string{"a", "", "", ""}, 1, 4},
		{[]string{"", "a", "", "b", ""}, 1, 5},
		{[]string{"ab", "bc", "cd", "de", "x", "yz", "xf"}, 4, 7},
		{[]string{"x", "a", "xa", "b", "ab", "c"}, 4, 6},
		{[]string{"aaa", "bab", "ccc", "cdc", "eee"}, 2, 5},
		{[]string{"ab", "cd", "ab", "cd", "ab", "ab"}, 4, 6},
	} {
		l := writing(x.keys...)
		for _, c := range []api.Config{like(2, 1, x.j-x.i+1, 1), like(2, 3, api.MaxWindow, 1), like(3, 2, x.j-x.i+1, 2), like(api.MaxLanes, api.MaxShards, api.MaxWindow, api.MaxQueue)} {
			apart(t, c, l, x.i, x.j)
		}
		noPair(t, like(2, 1, x.j-x.i, 1), l, x.i, x.j, api.ErrOrder)
	}
}

// P23.1: chained by one that stands between, though they have no key in common; by one behind them they are not.
func TestChains(t *testing.T) {
	c := like(3, 2, 8, 1)
	for _, l := range [][]api.Txn{
		writing("a", "ab", "b"),
		writing("a", "ab", "bc", "cd", "d"),
		writing("a", "xa", "y", "yx"),
		writing("a", "a"),
		writing("a", "a", "a"),
		numbered(ws(drop("a")), ws(put("b", ""), drop("a"))),
		numbered(ws(put("a", "1"), put("b", "1"), put("a", "2")), ws(drop("c"), put("c", "")), ws(put("c", "1"), drop("b"))),
	} {
		noPair(t, c, l, 1, len(l), api.ErrChain)
	}
	for _, keys := range [][]string{{"a", "b", "ab"}, {"a", "b", "ab", "ab"}, {"ab", "cd", "bc"}} {
		apart(t, c, writing(keys...), 1, 2)
	}
	apart(t, c, writing("ab", "a", "b"), 2, 3)
	apart(t, c, writing("a", "b", "aa", "c"), 3, 4)
}

// P23.1: two are as far apart as the window lets them, wherever they stand, and not one further.
func TestWindows(t *testing.T) {
	var keys []string
	for n := range 140 {
		keys = append(keys, string(rune('A'+n)))
	}
	l := writing(keys...)
	for window := 1; window <= api.MaxWindow; window++ {
		c := like(2, 3, window, 1)
		for _, i := range []int{1, 2, 64, len(l) - window} {
			if window > 1 {
				apart(t, c, l, i, i+window-1)
				apart(t, c, l, i, i+1)
			}
			noPair(t, c, l, i, i+window, api.ErrOrder)
		}
		noPair(t, c, l, 1, len(l), api.ErrOrder)
	}
}

// wrongConfigs may not be.
func wrongConfigs() []api.Config {
	l := []api.Config{{}}
	for place := range 4 {
		for _, n := range []int{0, -1, math.MinInt, math.MaxInt, []int{api.MaxLanes, api.MaxShards, api.MaxWindow, api.MaxQueue}[place] + 1} {
			f := []int{2, 1, 1, 1}
			f[place] = n
			l = append(l, like(f[0], f[1], f[2], f[3]))
		}
	}
	return l
}

// wrongLogs may not be: a transaction that may not be, or one out of its turn, somewhere.
func wrongLogs() [][]api.Txn {
	var all [][]api.Txn
	for place := range 3 {
		for _, w := range [][]api.Write{
			ws(put("", "x")),
			ws(put("a", "x"), drop("")),
			ws(put(strings.Repeat("k", api.MaxKey+1), "x")),
			ws(put("a", strings.Repeat("v", api.MaxVal+1)), put("a", "")),
			ws(api.Write{Key: "a", Val: "x", Drop: true}),
			slices.Repeat(ws(put("a", "")), api.MaxWrites+1),
		} {
			l := logT()
			l[place].Writes = w
			all = append(all, l)
		}
		for _, n := range []int{0, -1, place + 2, math.MinInt, math.MaxInt, api.MaxLog + 1} {
			l := logT()
			l[place].Number = n
			all = append(all, l)
		}
	}
	return append(all, logT()[1:], append(logT(), logT()...))
}

// P23.1, P23.2: configurations and logs that may not be; the configuration is refused first, and a log before all else that is wrong.
func TestWhatMayNotBe(t *testing.T) {
	pairs := [][2]int{{1, 2}, {1, 3}, {2, 2}, {0, 1}, {1, 9}}
	logs := append(wrongLogs(), logT(), nil)
	for _, c := range wrongConfigs() {
		for _, l := range logs {
			noSerial(t, c, l, api.ErrConfig)
			for _, p := range pairs {
				noPair(t, c, l, p[0], p[1], api.ErrConfig)
			}
		}
	}
	for _, c := range []api.Config{like(2, 1, 4, 1), like(1, 1, 4, 1), like(2, 1, 1, 1)} {
		for _, l := range wrongLogs() {
			noSerial(t, c, l, api.ErrArg)
			for _, p := range pairs {
				noPair(t, c, l, p[0], p[1], api.ErrArg)
			}
		}
	}
}

// P23.1: numbers that are no pair; one lane.
func TestNoPairs(t *testing.T) {
	some := []int{math.MinInt, math.MinInt + 1, -1, 0, 1, 2, 3, 4, 5, math.MaxInt - 1, math.MaxInt}
	for _, l := range [][]api.Txn{nil, writing("a"), writing("a", "b"), writing("a", "b", "c")} {
		for _, i := range some {
			for _, j := range some {
				if i < 1 || i >= j || j > len(l) {
					noPair(t, like(2, 1, 4, 1), l, i, j, api.ErrArg)
					noPair(t, like(2, 1, 1, 1), l, i, j, api.ErrArg)
				} else {
					apart(t, like(2, 1, 4, 1), l, i, j)
				}
				noPair(t, like(1, 1, 4, 1), l, i, j, api.ErrArg)
				noPair(t, like(1, 4, 1, 1), l, i, j, api.ErrArg)
			}
		}
	}
}

// R2: of several that apply, the one that the chapter names first.
func TestWhichError(t *testing.T) {
	long := long(api.MaxLog)
	chained := slices.Clone(long)
	chained[0].Writes, chained[api.MaxLog-1].Writes, chained[api.MaxLog-2].Writes = ws(put("a", "")), ws(put("a", "")), ws(put("a", ""))
	last := api.MaxLog
	noPair(t, like(1, 1, 1, 1), logT(), 1, 3, api.ErrArg)              // one lane, too far, chained
	noPair(t, like(1, 1, 4, 1), logT(), 1, 3, api.ErrArg)              // one lane, chained
	noPair(t, like(2, 1, 2, 1), logT(), 1, 3, api.ErrOrder)            // too far, chained
	noPair(t, like(1, 1, 4, 1), long, last-1, last, api.ErrArg)        // one lane, too long
	noPair(t, like(2, 1, 4, 1), long, last, last, api.ErrArg)          // no pair, too long
	noPair(t, like(2, 1, 1, 1), chained, last-1, last, api.ErrOrder)   // too far, chained, too long
	noPair(t, like(2, 1, 64, 1), chained, 1, last, api.ErrOrder)       // the same
	noPair(t, like(2, 1, 4, 1), chained, last-1, last, api.ErrChain)   // chained, too long
	noPair(t, like(2, 1, 4, 1), chained, last-2, last, api.ErrLimit)   // too long
	noPair(t, api.Config{}, chained, last-1, last, api.ErrConfig)      // all of it
	noPair(t, like(2, 1, 4, 1), chained[1:], last-1, last, api.ErrArg) // all but the configuration
	noSerial(t, api.Config{}, long, api.ErrConfig)
	noSerial(t, like(1, 1, 1, 1), long[1:], api.ErrArg)
	noSerial(t, like(1, 1, 1, 1), long, api.ErrLimit)
}

// P23.2: logs that are small, or strange.
func TestSerial(t *testing.T) {
	wide := make([]api.Write, api.MaxWrites)
	for n := range wide {
		wide[n] = put(fmt.Sprint("key ", n), strings.Repeat("v", n))
	}
	for _, c := range []api.Config{like(1, 1, 1, 1), like(1, 3, 4, 1), like(3, 1, 4, 2), like(2, 2, 1, 1), like(api.MaxLanes, api.MaxShards, api.MaxWindow, api.MaxQueue)} {
		for _, l := range [][]api.Txn{
			nil,
			{},
			writing(""),
			writing("", "", ""),
			writing("a"),
			writing("a", "a", "a", "a", "a", "a"),
			writing("a", "b", "c", "d", "e", "f"),
			writing("abab", "", "bcb", "xx"),
			logT(),
			numbered(wide, nil, wide, wide[:7], ws(drop("key 1"), drop("key 2"), put("key 1", ""))),
			numbered(slices.Repeat(ws(put("a", "x")), api.MaxWrites), ws(drop("nobody's"))),
		} {
			serial(t, c, l)
		}
	}
}

// R4: what is handed in is not changed, its spare room neither.
func TestWhatIsHandedInStays(t *testing.T) {
	made := func() []api.Txn {
		writes := append(make([]api.Write, 0, 8), put("a", "1"), drop("b"), put("a", "2"))
		l := append(make([]api.Txn, 0, 8), api.Txn{Number: 1, Writes: writes}, api.Txn{Number: 2}, api.Txn{Number: 3, Writes: append(make([]api.Write, 0, 4), put("c", ""))})
		return l
	}
	l, c := made(), like(2, 2, 4, 1)
	apart(t, c, l, 1, 3)
	serial(t, c, l)
	want := made()
	if !reflect.DeepEqual(l[:cap(l)], want[:cap(want)]) {
		t.Errorf("%v", l[:cap(l)])
	}
	for i := range l {
		a, b := l[i].Writes, want[i].Writes
		if cap(a) != cap(b) || !reflect.DeepEqual(a[:cap(a)], b[:cap(b)]) {
			t.Errorf("%v", a[:cap(a)])
		}
	}
}

// R4, R5: an answer is new memory; asked again, whatever was done to the first one, it is the same.
func TestAnswersAreNew(t *testing.T) {
	c, l := like(3, 2, 4, 1), writing("a", "b", "ac", "d")
	for _, ask := range []func() []int{
		func() []int { p, _ := plan.Apart(c, l, 1, 4); return p },
		func() []int { p, _ := plan.Serial(c, l); return p },
	} {
		first := ask()
		second := ask()
		want := slices.Clone(second)
		if !slices.Equal(first, second) {
			t.Fatalf("%v, then %v", first, second)
		}
		first = first[:cap(first)]
		for n := range first {
			first[n] = -99
		}
		if !slices.Equal(second, want) || !slices.Equal(ask(), want) {
			t.Errorf("%v, then %v, want %v", second, ask(), want)
		}
	}
}
