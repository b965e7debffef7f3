package free_test

import (
	"fmt"
	"math"
	"slices"
	"strings"
	"testing"

	"towpath/api"
	"towpath/fold"
	"towpath/free"
)

// put and drop: a write of a value, and one by which a key goes.
func put(key, val string) api.Write { return api.Write{Key: key, Val: val} }
func drop(key string) api.Write     { return api.Write{Key: key, Drop: true} }

// ws: writes of one transaction.
func ws(l ...api.Write) []api.Write { return l }

// numbered: a log of transactions with these writes.
func numbered(l ...[]api.Write) []api.Txn {
	var log []api.Txn
	for i, w := range l {
		log = append(log, api.Txn{Number: i + 1, Writes: w})
	}
	return log
}

// logT is the document's log.
func logT() []api.Txn {
	return numbered(ws(put("a", "1")), ws(put("b", "2")), ws(put("a", "3"), drop("b")))
}

// like: a configuration.
func like(lanes, shards, window, queue int) api.Config {
	return api.Config{Lanes: lanes, Shards: shards, Window: window, Queue: queue}
}

// two is the configuration of the chapter's examples.
func two() api.Config { return like(2, 2, 2, 1) }

// The calls.
func get(key string) api.Call       { return api.Call{Kind: api.CallGet, Key: key} }
func scan(key, end string) api.Call { return api.Call{Kind: api.CallScan, Key: key, End: end} }
func collect() api.Call             { return api.Call{Kind: api.CallCollect} }
func save() api.Call                { return api.Call{Kind: api.CallSave} }

// times: a call, so many times.
func times(n int, x api.Call) []api.Call { return slices.Repeat([]api.Call{x}, n) }

// brief: the beginning of what it is, for it may be long.
func brief(x any) string {
	s := fmt.Sprintf("%+v", x)
	return s[:min(len(s), 1000)]
}

// same: are two answers the same? Empty and nil lists are.
func same(a, b api.Answer) bool {
	return a.Code == b.Code && a.Mark == b.Mark && a.OK == b.OK && a.Count == b.Count && slices.Equal(a.Entries, b.Entries)
}

// hidden: how many versions the first so many transactions leave that a newer one of them hides.
func hidden(l []api.Txn, first int) int {
	keys, versions := map[string]int{}, 0
	for _, x := range l[:first] {
		for _, w := range x.Writes {
			if keys[w.Key] != x.Number {
				keys[w.Key] = x.Number
				versions++
			}
		}
	}
	return versions - len(keys)
}

// wanted: what a call answers that began at that mark, by the fold; of a Collect with the Count that it has, if it may.
func wanted(l []api.Txn, x api.Call, got api.Answer) api.Answer {
	a := api.Answer{Mark: got.Mark, OK: true}
	switch x.Kind {
	case api.CallGet:
		val, ok, _ := fold.Get(l, got.Mark, x.Key)
		if a.OK = ok; ok {
			a.Entries = []api.Entry{{Key: x.Key, Val: val}}
		}
	case api.CallScan:
		a.Entries, _ = fold.Scan(l, got.Mark, x.Key, x.End)
	case api.CallCollect:
		a.Count = max(0, min(got.Count, hidden(l, got.Mark)))
	}
	return a
}

// reads: the store is the fold, and so is each answer at its mark. (P25.1, P25.2)
func reads(t testing.TB, c api.Config, l []api.Txn, calls []api.Call) []api.Answer {
	t.Helper()
	store, answers, e := free.Read(c, l, calls)
	want, _ := fold.Store(l, len(l))
	if e != api.OK || !slices.Equal(store, want) || len(answers) != len(calls) {
		t.Fatalf("Read(%v, %s, %s) = %s, %s, %v, want %s", c, brief(l), brief(calls), brief(store), brief(answers), e, brief(want))
	}
	gone := 0
	for n, a := range answers {
		if a.Mark < 0 || a.Mark > len(l) {
			t.Fatalf("%+v began at %d", calls[n], a.Mark)
		}
		if want := wanted(l, calls[n], a); !same(a, want) {
			t.Fatalf("Read(%v, %s, ..): %+v answers %s, want %s", c, brief(l), calls[n], brief(a), brief(want))
		}
		gone += a.Count
	}
	if gone > hidden(l, len(l)) {
		t.Fatalf("Read(%v, %s, %s): %d versions went", c, brief(l), brief(calls), gone)
	}
	return answers
}

// applies: Apply and Read answer the fold. (P25.1)
func applies(t testing.TB, c api.Config, l []api.Txn) {
	t.Helper()
	store, e := free.Apply(c, l)
	want, _ := fold.Store(l, len(l))
	if e != api.OK || !slices.Equal(store, want) {
		t.Fatalf("Apply(%v, %s) = %s, %v, want %s", c, brief(l), brief(store), e, brief(want))
	}
	reads(t, c, l, nil)
}

// refused: Read answers this error, and nothing else.
func refused(t testing.TB, c api.Config, l []api.Txn, calls []api.Call, want api.Errno) {
	t.Helper()
	if store, answers, e := free.Read(c, l, calls); e != want || len(store) != 0 || len(answers) != 0 {
		t.Fatalf("Read(%v, %s, %s) = %s, %s, %d, want %d", c, brief(l), brief(calls), brief(store), brief(answers), e, want)
	}
}

// refusedBoth: so does Apply.
func refusedBoth(t testing.TB, c api.Config, l []api.Txn, calls []api.Call, want api.Errno) {
	t.Helper()
	refused(t, c, l, calls, want)
	if store, e := free.Apply(c, l); e != want || len(store) != 0 {
		t.Fatalf("Apply(%v, %s) = %s, %d, want %d", c, brief(l), brief(store), e, want)
	}
}

// P25.1, P25.2: the chapter's rows.
func TestExamples(t *testing.T) {
	a1, b2, a3 := api.Entry{Key: "a", Val: "1"}, api.Entry{Key: "b", Val: "2"}, api.Entry{Key: "a", Val: "3"}
	if store, e := free.Apply(two(), logT()); e != api.OK || !slices.Equal(store, []api.Entry{a3}) {
		t.Errorf("Apply(C, T) = %v, %v", store, e)
	}
	if store, e := free.Apply(two(), nil); e != api.OK || len(store) != 0 {
		t.Errorf("Apply(C, none) = %v, %v", store, e)
	}
	if store, e := free.Apply(api.Config{}, logT()); e != api.ErrConfig || len(store) != 0 {
		t.Errorf("Apply(the zero configuration, T) = %v, %v", store, e)
	}
	if store, e := free.Apply(two(), logT()[1:]); e != api.ErrArg || len(store) != 0 {
		t.Errorf("Apply(C, a log that begins with 2) = %v, %v", store, e)
	}

	gets := [][]api.Entry{nil, nil, {b2}, nil}
	scans := [][]api.Entry{nil, {a1}, {a1, b2}, {a3}}
	for range 300 {
		store, answers, e := free.Read(two(), logT(), []api.Call{get("b"), scan("", "")})
		if e != api.OK || !slices.Equal(store, []api.Entry{a3}) || len(answers) != 2 {
			t.Fatalf("Read(C, T, ..) = %v, %v, %v", store, answers, e)
		}
		m, n := answers[0].Mark, answers[1].Mark
		if m < 0 || m > 3 || !same(answers[0], api.Answer{Mark: m, OK: m == 2, Entries: gets[m]}) {
			t.Errorf("a Get of b: %+v", answers[0])
		}
		if n < 0 || n > 3 || !same(answers[1], api.Answer{Mark: n, OK: true, Entries: scans[n]}) {
			t.Errorf("a Scan of all: %+v", answers[1])
		}
	}

	refused(t, two(), logT(), []api.Call{save()}, api.ErrArg)
	refused(t, two(), logT(), []api.Call{get("")}, api.ErrArg)
	refused(t, two(), logT(), times(33, collect()), api.ErrFull)
}

// wrongConfigs may not be.
func wrongConfigs() []api.Config {
	l := []api.Config{{}}
	for place, most := range []int{api.MaxLanes, api.MaxShards, api.MaxWindow, api.MaxQueue} {
		for _, n := range []int{0, -1, math.MinInt, math.MaxInt, most + 1} {
			f := []int{2, 1, 1, 1}
			f[place] = n
			l = append(l, like(f[0], f[1], f[2], f[3]))
		}
	}
	return l
}

// wrongLogs may not be: a transaction that may not be, or one out of its turn, somewhere.
func wrongLogs() [][]api.Txn {
	var all [][]api.Txn
	for place := range 3 {
		for _, w := range [][]api.Write{
			ws(put("", "x")),
			ws(put("a", "x"), drop("")),
			ws(put(strings.Repeat("k", api.MaxKey+1), "x")),
			ws(put("a", strings.Repeat("v", api.MaxVal+1)), put("a", "")),
			ws(api.Write{Key: "a", Val: "x", Drop: true}),
			slices.Repeat(ws(put("a", "")), api.MaxWrites+1),
		} {
			l := logT()
			l[place].Writes = w
			all = append(all, l)
		}
		for _, n := range []int{0, -1, place + 2, math.MinInt, math.MaxInt, api.MaxLog + 1} {
			l := logT()
			l[place].Number = n
			all = append(all, l)
		}
	}
	return append(all, logT()[1:], append(logT(), logT()...))
}

// wrongCalls: none of these may be, or is one that may be made here.
func wrongCalls() []api.Call {
	long := strings.Repeat("k", api.MaxKey+1)
	return []api.Call{
		{}, {Key: "a"}, {Kind: 5}, {Kind: 255, Key: "a"},
		get(""), get(long), {Kind: api.CallGet, Key: "a", End: "b"}, {Kind: api.CallGet, End: "b"},
		scan(long, ""), scan("", long), scan(long, long), scan("a", long),
		{Kind: api.CallCollect, Key: "a"}, {Kind: api.CallCollect, End: "a"},
		save(), {Kind: api.CallSave, Key: "a"}, {Kind: api.CallSave, End: "a"},
	}
}

// P25.1, P25.2: what may not be; the configuration is refused first, then the log and the calls, then how many these are.
func TestWhatMayNotBe(t *testing.T) {
	lists := [][]api.Call{nil, {}, {get("a"), collect()}, times(api.MaxCalls, scan("", "")), times(api.MaxCalls+1, collect()), {save()}, times(1000, get(""))}
	for _, calls := range lists {
		for _, c := range wrongConfigs() {
			refusedBoth(t, c, logT(), calls, api.ErrConfig)
			refusedBoth(t, c, nil, calls, api.ErrConfig)
			for _, l := range wrongLogs() {
				refusedBoth(t, c, l, calls, api.ErrConfig)
			}
		}
		for _, l := range wrongLogs() {
			refusedBoth(t, two(), l, calls, api.ErrArg)
		}
	}
	tooLong := make([]api.Txn, api.MaxLog+1)
	for i := range tooLong {
		tooLong[i].Number = i + 1
	}
	refusedBoth(t, two(), tooLong, nil, api.ErrArg)
	applies(t, two(), tooLong[:api.MaxLog])
}

// P25.2: a call that may not be, at each place among others, however many there are.
func TestCallsThatMayNotBe(t *testing.T) {
	for _, wrong := range wrongCalls() {
		for _, many := range []int{1, 2, 3, api.MaxCalls, api.MaxCalls + 1, 100} {
			for _, place := range []int{0, many / 2, many - 1} {
				for _, good := range []api.Call{get("a"), scan("", ""), collect()} {
					calls := times(many, good)
					calls[place] = wrong
					refused(t, two(), logT(), calls, api.ErrArg)
					refused(t, two(), nil, calls, api.ErrArg)
				}
			}
		}
	}
}

// P25.2: as many calls as there may be, and one more.
func TestHowManyCalls(t *testing.T) {
	for _, x := range []api.Call{get("a"), scan("", ""), collect()} {
		for n := range api.MaxCalls + 1 {
			reads(t, two(), logT(), times(n, x))
		}
		for _, n := range []int{api.MaxCalls + 1, api.MaxCalls + 2, 1 << 16} {
			refused(t, two(), logT(), times(n, x), api.ErrFull)
			refused(t, two(), nil, times(n, x), api.ErrFull)
		}
	}
}

// P25.1, P25.2: the least and the greatest configurations, transactions, keys and values.
func TestWhatMayBe(t *testing.T) {
	long := strings.Repeat("k", api.MaxKey-2)
	wide := make([]api.Write, api.MaxWrites)
	for n := range wide {
		wide[n] = put(long+fmt.Sprintf("%2d", n), strings.Repeat("v", api.MaxVal))
	}
	logs := [][]api.Txn{
		nil,
		{},
		numbered(nil),
		numbered(nil, nil, ws(put("a", "")), nil),
		logT(),
		numbered(wide, wide[:9], ws(put("a", ""), put("a", "x"), drop("a"))),
		numbered(ws(drop("a"), put("a", "x"), put("b", "y"), put("a", "z")), ws(put("b", "x"), drop("b")), ws(drop("c"))),
		numbered(ws(put("\x00", "\xff")), ws(put("\xff", "\x00"), put("\x00\x00", "")), ws(drop("\x00"))),
		numbered(slices.Repeat(ws(put("a", "1")), api.MaxWrites), slices.Repeat(ws(drop("a")), api.MaxWrites)),
	}
	calls := []api.Call{get("a"), get("\x00"), get(long + " 0"), get(long + "kk"), scan("", ""), scan("a", "b"), scan("b", "a"), scan(long+"kk", ""), scan("", long+" 9"), collect(), scan("\x00", "\xff"), get("b"), collect()}
	for _, c := range []api.Config{like(1, 1, 1, 1), two(), like(2, 3, 1, 2), like(1, 16, 64, 1), like(16, 1, 64, 1), like(16, 16, 1, 16), like(api.MaxLanes, api.MaxShards, api.MaxWindow, api.MaxQueue)} {
		for _, l := range logs {
			applies(t, c, l)
			for range 5 {
				reads(t, c, l, calls)
			}
		}
	}
}

// P25.2: behind no log, all begin at 0 and find nothing.
func TestReadOfNoLog(t *testing.T) {
	for _, c := range []api.Config{like(1, 1, 1, 1), two(), like(16, 16, 64, 16)} {
		for range 20 {
			_, answers, e := free.Read(c, nil, []api.Call{get("a"), scan("", ""), collect()})
			if e != api.OK || len(answers) != 3 || !same(answers[0], api.Answer{}) || !same(answers[1], api.Answer{OK: true}) || !same(answers[2], api.Answer{OK: true}) {
				t.Fatalf("%v, %v", answers, e)
			}
		}
	}
}

// P25.2: answers stand in the calls' order, whatever order these end in.
func TestAnswersInOrder(t *testing.T) {
	var all []api.Write
	var calls []api.Call
	for n := range api.MaxCalls {
		all = append(all, put(fmt.Sprintf("k%d", n), fmt.Sprint(n)))
		calls = append(calls, get(all[n].Key))
	}
	log := numbered(slices.Repeat([][]api.Write{all}, 40)...)
	for range 100 {
		for n, a := range reads(t, like(4, 4, 4, 2), log, calls) {
			if a.Mark > 0 && a.Entries[0] != (api.Entry{Key: all[n].Key, Val: all[n].Val}) {
				t.Fatalf("answer %d: %+v", n, a)
			}
		}
	}
}

// P0.8, P25.2: a Collect that is alone leaves no version that its mark hides: how many go hangs on the mark alone.
func TestCollectAlone(t *testing.T) {
	l := make([][]api.Write, 60)
	for i := range l {
		l[i] = ws(put("a", fmt.Sprint(i)), put(fmt.Sprint("k", i%7), ""), drop("a"), drop(fmt.Sprint("x", i)))
	}
	log := numbered(l...)
	for range 500 {
		a := reads(t, like(3, 2, 8, 1), log, []api.Call{collect()})[0]
		if a.Count != hidden(log, a.Mark) {
			t.Fatalf("at %d: %d, want %d", a.Mark, a.Count, hidden(log, a.Mark))
		}
	}
}

// R4: what is handed in is not changed, its spare room neither.
func TestMemoryOfArguments(t *testing.T) {
	build := func() ([]api.Txn, []api.Call) {
		room := ws(put("a", "1"), put("a", "2"), drop("b"), put("room", ""), put("room", "2"))
		l := append(logT(), api.Txn{Number: 4, Writes: room[:3]}, api.Txn{Number: 5, Writes: room[1:2]}, api.Txn{Number: 99, Writes: room[:5]})
		return l[:5], append(make([]api.Call, 0, 9), get("a"), scan("", ""), collect(), save())[:3]
	}
	l, calls := build()
	want, wantCalls := build()
	for range 50 {
		reads(t, two(), l, calls)
		applies(t, two(), l)
		if brief(l[:6]) != brief(want[:6]) || !slices.Equal(calls[:9], wantCalls[:9]) {
			t.Fatalf("now: %v, %v", l[:6], calls[:9])
		}
	}
}

// spoil writes over a list and its spare room.
func spoil[T any](l []T, with T) {
	l = l[:cap(l)]
	for i := range l {
		l[i] = with
	}
}

// R4, R5, P25.4: an answer is new memory; what is done to it, or to what was handed in, is nothing to other answers, and nobody reads that any more.
func TestMemoryOfAnswers(t *testing.T) {
	bad := api.Entry{Key: "spoilt", Val: "spoilt"}
	calls := []api.Call{scan("", ""), scan("", ""), get("a"), get("a"), scan("a", "b")}
	for range 100 {
		l := logT()
		calls := slices.Clone(calls)
		store, answers, _ := free.Read(two(), l, calls)
		other, again, _ := free.Read(two(), l, calls)
		for n := range answers {
			spoil(answers[n].Entries, bad)
			for later := n + 1; later < len(answers); later++ {
				if a := answers[later]; !same(a, wanted(l, calls[later], a)) {
					t.Fatalf("answers %d and %d share memory", n, later)
				}
			}
		}
		spoil(answers, api.Answer{Code: 9})
		spoil(l, api.Txn{Number: 7, Writes: ws(put("spoilt", ""))})
		spoil(calls, save())
		if a3 := []api.Entry{{Key: "a", Val: "3"}}; !slices.Equal(store, a3) || !slices.Equal(other, a3) {
			t.Fatalf("%v, %v", store, other)
		}
		spoil(store, bad)
		reads(t, two(), logT(), nil)
		for n, a := range again {
			if x := calls[:cap(calls)][n]; x != save() || slices.Contains(a.Entries, bad) {
				t.Fatalf("answer %d: %+v", n, a)
			}
		}
	}
}
