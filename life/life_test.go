package life_test

import (
	"fmt"
	"math"
	"reflect"
	"slices"
	"strings"
	"testing"

	"towpath/api"
	"towpath/fold"
	"towpath/life"
)

// put and drop: a write of a value, and one by which a key goes.
func put(key, val string) api.Write { return api.Write{Key: key, Val: val} }
func drop(key string) api.Write     { return api.Write{Key: key, Drop: true} }

// ws: writes of one transaction.
func ws(l ...api.Write) []api.Write { return l }

// numbered: a log of transactions with these writes.
func numbered(l ...[]api.Write) []api.Txn {
	var log []api.Txn
	for i, w := range l {
		log = append(log, api.Txn{Number: i + 1, Writes: w})
	}
	return log
}

// logT is the document's log.
func logT() []api.Txn {
	return numbered(ws(put("a", "1")), ws(put("b", "2")), ws(put("a", "3"), drop("b")))
}

// like: a configuration.
func like(lanes, shards, window, queue int) api.Config {
	return api.Config{Lanes: lanes, Shards: shards, Window: window, Queue: queue}
}

// one is the configuration of the chapter's examples.
func one() api.Config { return like(1, 1, 4, 1) }

// The calls.
func get(key string) api.Call       { return api.Call{Kind: api.CallGet, Key: key} }
func scan(key, end string) api.Call { return api.Call{Kind: api.CallScan, Key: key, End: end} }
func collect() api.Call             { return api.Call{Kind: api.CallCollect} }
func save() api.Call                { return api.Call{Kind: api.CallSave} }

// calls: some of them.
func calls(l ...api.Call) []api.Call { return l }

// times: a pick, so many times.
func times(n, pick int) []int { return slices.Repeat([]int{pick}, n) }

// rising: a run whose picks go to the last task that can do something. Of the log T, by one lane, the mark is 1 behind 7 of them, 2 behind 14, 3 behind 23; and a call goes ahead of all else.
func rising(fed, picks, more, cut int, l ...api.Call) api.Run {
	return api.Run{Fed: fed, Picks: times(picks, -1), Calls: l, More: times(more, -1), Cut: cut}
}

// run is that of the chapter's examples.
func run() api.Run {
	return api.Run{Fed: 2, Picks: times(40, 0), Calls: calls(save()), More: times(40, 0), Cut: -1}
}

// runs: some of them.
func runs(l ...api.Run) []api.Run { return l }

// brief: the beginning of what it is, for it may be long.
func brief(x any) string {
	s := fmt.Sprintf("%+v", x)
	return s[:min(len(s), 1000)]
}

// live: the marks; the store is the fold. (P24.1, P24.2)
func live(t testing.TB, c api.Config, l []api.Txn, capacity int, x []api.Run) []int {
	t.Helper()
	store, marks, e := life.Live(c, l, capacity, x)
	want, _ := fold.Store(l, len(l))
	if e != api.OK || !slices.Equal(store, want) || len(marks) != len(x)+1 || marks[0] != 0 || !slices.IsSorted(marks) {
		t.Fatalf("Live(%v, %s, %d, %s) = %s, %v, %v, want %s", c, brief(l), capacity, brief(x), brief(store), brief(marks), e, brief(want))
	}
	return marks
}

// marksAre: the runs of the log T, over disks of 4096 bytes, begin at these marks.
func marksAre(t testing.TB, c api.Config, x []api.Run, want ...int) {
	t.Helper()
	if marks := live(t, c, logT(), 4096, x); !slices.Equal(marks, want) {
		t.Fatalf("%v, %s: began at %v, want %v", c, brief(x), marks, want)
	}
}

// refused: there is no life, but this error.
func refused(t testing.TB, c api.Config, l []api.Txn, capacity int, x []api.Run, want api.Errno) {
	t.Helper()
	if store, marks, e := life.Live(c, l, capacity, x); e != want || len(store) != 0 || len(marks) != 0 {
		t.Fatalf("Live(%v, %s, %d, %s) = %s, %v, %d, want %d", c, brief(l), capacity, brief(x), brief(store), marks, e, want)
	}
}

// P24.1: the chapter's rows.
func TestExamples(t *testing.T) {
	a3 := []api.Entry{{Key: "a", Val: "3"}}
	cut := run()
	cut.Cut = 0
	for _, x := range []struct {
		capacity int
		runs     []api.Run
		marks    []int
	}{
		{4096, nil, []int{0}},
		{4096, runs(run()), []int{0, 2}},
		{4096, runs(cut), []int{0, 0}},
		{0, runs(run()), []int{0, 0}},
	} {
		store, marks, e := life.Live(one(), logT(), x.capacity, x.runs)
		if e != api.OK || !slices.Equal(store, a3) || !slices.Equal(marks, x.marks) {
			t.Errorf("%+v: %v, %v, %v", x, store, marks, e)
		}
	}
	refused(t, one(), logT(), -1, nil, api.ErrArg)
	refused(t, api.Config{}, logT(), 4096, nil, api.ErrConfig)
}

// wrongConfigs may not be.
func wrongConfigs() []api.Config {
	l := []api.Config{{}}
	for place, most := range []int{api.MaxLanes, api.MaxShards, api.MaxWindow, api.MaxQueue} {
		for _, n := range []int{0, -1, math.MinInt, math.MaxInt, most + 1} {
			f := []int{2, 1, 1, 1}
			f[place] = n
			l = append(l, like(f[0], f[1], f[2], f[3]))
		}
	}
	return l
}

// wrongLogs may not be: a transaction that may not be, or one out of its turn, somewhere.
func wrongLogs() [][]api.Txn {
	var all [][]api.Txn
	for place := range 3 {
		for _, w := range [][]api.Write{
			ws(put("", "x")),
			ws(put("a", "x"), drop("")),
			ws(put(strings.Repeat("k", api.MaxKey+1), "x")),
			ws(put("a", strings.Repeat("v", api.MaxVal+1)), put("a", "")),
			ws(api.Write{Key: "a", Val: "x", Drop: true}),
			slices.Repeat(ws(put("a", "")), api.MaxWrites+1),
		} {
			l := logT()
			l[place].Writes = w
			all = append(all, l)
		}
		for _, n := range []int{0, -1, place + 2, math.MinInt, math.MaxInt, api.MaxLog + 1} {
			l := logT()
			l[place].Number = n
			all = append(all, l)
		}
	}
	return append(all, logT()[1:], append(logT(), logT()...))
}

// wrongCapacities: no disk has so many bytes.
func wrongCapacities() []int {
	return []int{-1, math.MinInt, api.MaxDisk + 1, math.MaxInt}
}

// P24.1: what may not be; the configuration is refused first.
func TestWhatMayNotBe(t *testing.T) {
	lives := [][]api.Run{nil, {}, runs(run()), runs(api.Run{}, run())}
	for _, x := range lives {
		for _, c := range wrongConfigs() {
			refused(t, c, logT(), 4096, x, api.ErrConfig)
			refused(t, c, nil, -1, x, api.ErrConfig)
			for _, l := range wrongLogs() {
				refused(t, c, l, 0, x, api.ErrConfig)
				refused(t, c, l, math.MaxInt, x, api.ErrConfig)
			}
		}
		for _, capacity := range wrongCapacities() {
			refused(t, one(), logT(), capacity, x, api.ErrArg)
			refused(t, one(), nil, capacity, x, api.ErrArg)
		}
		for _, l := range wrongLogs() {
			for _, capacity := range append(wrongCapacities(), 0, 4096, api.MaxDisk) {
				refused(t, one(), l, capacity, x, api.ErrArg)
			}
		}
	}
	tooLong := make([]api.Txn, api.MaxLog+1)
	for i := range tooLong {
		tooLong[i].Number = i + 1
	}
	refused(t, one(), tooLong, 0, nil, api.ErrArg)
	live(t, one(), tooLong[:api.MaxLog], 0, nil)
}

// P24.1: the least and the greatest configurations, logs and disks.
func TestWhatMayBe(t *testing.T) {
	wide := make([]api.Write, api.MaxWrites)
	for n := range wide {
		wide[n] = put(strings.Repeat("k", api.MaxKey-2)+fmt.Sprintf("%2d", n), strings.Repeat("v", api.MaxVal))
	}
	for _, c := range []api.Config{like(1, 1, 1, 1), one(), like(2, 3, 1, 2), like(api.MaxLanes, api.MaxShards, api.MaxWindow, api.MaxQueue)} {
		for _, l := range [][]api.Txn{nil, {}, numbered(nil), logT(), numbered(wide, wide[:9], ws(put("a", ""), put("a", "x"), drop("a")))} {
			all := api.Run{Fed: len(l), Picks: times(1000, 0), Calls: calls(save()), More: times(1000, 0), Cut: -1}
			for _, capacity := range []int{0, api.MaxDisk} {
				if marks := live(t, c, l, capacity, runs(all, run(), all)); capacity > 0 && marks[1] != len(l) || capacity == 0 && marks[3] != 0 {
					t.Errorf("%v, %s: began at %v", c, brief(l), marks)
				}
				live(t, c, l, capacity, nil)
			}
		}
	}
}

// P24.1: all of Picks are ahead of the calls, and all of More behind them: the mark of the Save tells how many were ahead, and what is left how many were behind.
func TestPicksAndMore(t *testing.T) {
	at := func(picks int) int {
		switch {
		case picks < 7:
			return 0
		case picks < 14:
			return 1
		case picks < 23:
			return 2
		}
		return 3
	}
	for picks := range 40 {
		marksAre(t, one(), runs(rising(3, picks, 40, -1, save())), 0, at(picks))
		marksAre(t, one(), runs(rising(3, 0, picks, -1, save())), 0, 0) // the Save is ahead of all else
		marksAre(t, one(), runs(rising(3, picks, 0, -1, save())), 0, 0)
	}
	for more := range 12 { // it begins, asks, is served, and makes two raw writes: it need not end
		want := 0
		if more >= 5 {
			want = 2
		}
		marksAre(t, one(), runs(rising(3, 14, more, -1, save())), 0, want)
		marksAre(t, one(), runs(rising(2, 900, more, -1, save())), 0, want)
	}
}

// P24.1: each pick tells which task does its step: the last one of those that can, the first one, or one between, by what is left over.
func TestWhichPicks(t *testing.T) {
	begins := func(picks ...int) int { // at which mark a Save behind the picks begins
		x := rising(3, 0, 40, -1, save())
		x.Picks = picks
		return live(t, one(), logT(), 4096, runs(x))[1]
	}
	first := []int{0, 0, 1, 1, 1, 1} // the transaction 1, up to the gate; the dispatcher can read on
	for _, last := range []int{1, -1, 3, -3, math.MaxInt, math.MinInt + 1} {
		if m := begins(append(slices.Clone(first), last)...); m != 1 {
			t.Errorf("%d: the gate did no step, the mark is %d", last, m)
		}
	}
	for _, last := range []int{0, 2, -2, math.MinInt, math.MaxInt - 1} {
		if m := begins(append(slices.Clone(first), last)...); m != 0 {
			t.Errorf("%d: the gate did a step, the mark is %d", last, m)
		}
	}
	// By the first task the whole log is read first, and the transaction 2 follows 1 to the gate: 6 steps of the dispatcher, 4 for each of both.
	for picks, want := range map[int]int{14: 0, 15: 1, 16: 2, 22: 2, 23: 3} {
		if m := begins(times(picks, 0)...); m != want {
			t.Errorf("%d times the first task: %d, want %d", picks, m, want)
		}
	}
}

// P24.1: the log goes on up to Fed, if it may; what is refused leaves it where it is.
func TestFed(t *testing.T) {
	for fed := range 4 {
		marksAre(t, one(), runs(rising(fed, 40, 40, -1, save())), 0, fed)
		marksAre(t, one(), runs(rising(fed, 40, 40, -1, save()), rising(3, 40, 40, -1, save())), 0, fed, 3)
		marksAre(t, one(), runs(rising(2, 40, 40, -1, save()), rising(fed, 40, 40, -1, save())), 0, 2, max(2, fed))
	}
	for _, fed := range []int{4, -1, math.MinInt, math.MaxInt, api.MaxLog} {
		marksAre(t, one(), runs(rising(fed, 40, 40, -1, save())), 0, 0)
		marksAre(t, one(), runs(rising(2, 40, 40, -1, save()), rising(fed, 40, 40, -1, save()), rising(3, 40, 40, -1, save())), 0, 2, 2, 3)
	}
}

// P24.1: behind so many raw writes the disk is cut; a checkpoint that is cut anywhere is none, and a whole one stays. (It is 37 bytes at the mark 2: Clear, and one block.)
func TestCut(t *testing.T) {
	for cut, want := range map[int]int{0: 0, 1: 0, 2: 2, 3: 2, math.MaxInt: 2, -1: 2, -2: 2, math.MinInt: 2} {
		x := run()
		x.Cut = cut
		marksAre(t, one(), runs(x), 0, want)
		marksAre(t, one(), runs(rising(1, 40, 40, -1, save()), x), 0, 1, max(1, want))
		marksAre(t, one(), runs(rising(3, 40, 40, -1, save()), x), 0, 3, 3) // nothing is fed; the mark 3 is saved again
	}
	for capacity, want := range map[int]int{0: 0, 1: 0, 36: 0, 37: 2, 38: 2} {
		if marks := live(t, one(), logT(), capacity, runs(run())); marks[1] != want {
			t.Errorf("a disk of %d bytes: %v", capacity, marks)
		}
	}
}

// P24.1: a cut is one run's alone: the disk is mended ahead of the next one, whether it was dead or not yet.
func TestCutsEnd(t *testing.T) {
	whole := rising(2, 40, 40, -1, save())
	for _, ahead := range [][]api.Run{
		runs(rising(2, 40, 40, 0, save())),
		runs(rising(2, 40, 40, 1, save())),
		runs(rising(2, 40, 40, 0)),
		runs(rising(2, 40, 0, 1, save())),
		runs(api.Run{}),
		runs(api.Run{}, rising(2, 40, 40, 0, save()), rising(2, 40, 40, 1, save())),
		runs(rising(2, 40, 4, 1, save())),
	} {
		want := append(times(len(ahead)+1, 0), 2)
		marksAre(t, one(), append(ahead, whole), want...)
		enough := whole
		enough.Cut = 2
		marksAre(t, one(), append(ahead, enough), want...)
		want[len(want)-1] = 0
		short := whole
		short.Cut = 1
		marksAre(t, one(), append(ahead, short), want...)
	}
	// Behind a cut the replica is dead: the second Save comes to nothing; and the one that was done ahead of it holds.
	marksAre(t, one(), runs(rising(1, 40, 40, 2, save(), save())), 0, 1)
	marksAre(t, one(), runs(rising(1, 40, 40, 3, save(), save()), rising(2, 40, 40, 3, save())), 0, 1, 2)
	// The third checkpoint goes over the first one: cut, it leaves the second one.
	marksAre(t, one(), runs(rising(1, 40, 40, -1, save()), whole, rising(3, 40, 40, 1, save()), rising(3, 40, 40, 0, save()), rising(3, 40, 40, 9, save())), 0, 1, 2, 2, 2, 3)
}

// P24.1: each run has a replica of its own: neither calls nor what is fed nor what is there go on, but by the disk.
func TestEachRunIsNew(t *testing.T) {
	marksAre(t, one(), runs(rising(3, 40, 0, -1, save()), rising(0, 40, 40, -1)), 0, 0, 0)
	marksAre(t, one(), runs(rising(3, 40, 0, -1), rising(0, 40, 40, -1, save())), 0, 0, 0)
	marksAre(t, one(), runs(rising(3, 13, 0, -1), rising(3, 13, 40, -1, save())), 0, 0, 1)
	marksAre(t, one(), runs(rising(3, 14, 2, -1, save()), rising(3, 7, 3, -1), rising(3, 7, 40, -1, save())), 0, 0, 0, 1)
	marksAre(t, one(), runs(rising(3, 7, 40, -1, save()), rising(3, 7, 40, -1, save()), rising(3, 9, 40, -1, save())), 0, 1, 2, 3)
	marksAre(t, one(), times0(5), times(6, 0)...)
}

// times0: so many runs in which nothing is done.
func times0(n int) []api.Run { return make([]api.Run, n) }

// P24.1: calls are taken or refused: those that may not be do no harm, and not more are under way than may be.
func TestCalls(t *testing.T) {
	wrong := calls(api.Call{}, get(""), api.Call{Kind: api.CallSave, Key: "a"}, api.Call{Kind: 255}, api.Call{Kind: api.CallGet, Key: "a", End: "b"}, get(strings.Repeat("k", api.MaxKey+1)))
	marksAre(t, one(), runs(rising(2, 40, 40, -1, wrong...)), 0, 0)
	marksAre(t, one(), runs(rising(2, 40, 40, -1, append(wrong, save())...)), 0, 2)
	marksAre(t, one(), runs(rising(2, 40, 40, -1, append(calls(save()), wrong...)...)), 0, 2)
	others := func(n int) []api.Call { return slices.Repeat(calls(collect()), n) }
	marksAre(t, one(), runs(rising(2, 40, 400, -1, append(others(api.MaxCalls-1), save())...)), 0, 2)
	marksAre(t, one(), runs(rising(2, 40, 400, -1, append(others(api.MaxCalls), save())...)), 0, 0)
	marksAre(t, one(), runs(rising(2, 40, 400, -1, append(slices.Concat(wrong, others(api.MaxCalls-1), wrong), save())...)), 0, 2)
	marksAre(t, one(), runs(rising(2, 40, 400, -1, append(others(api.MaxCalls), save())...), rising(3, 40, 400, -1, save())), 0, 0, 3)
	for _, l := range [][]api.Call{{get("a"), save()}, {scan("", ""), save(), get("b")}, {collect(), save(), scan("a", "b")}, {save(), save(), save()}} {
		marksAre(t, one(), runs(rising(2, 40, 400, -1, l...)), 0, 2)
	}
}

// P0.5: what a checkpoint has beyond its mark is there behind the crash: with 2 beyond 0 the mark goes up to 2 once 1 is there, which are 7 steps; without, to 1.
func TestBeyond(t *testing.T) {
	c := like(2, 1, 4, 1)
	held := api.Run{Fed: 2, Picks: []int{0, 0, 1, 0, 0, -1, -1, -1, -1, -1}, Cut: -1} // a lane takes 1, and does nothing; the other one is done with 2
	with := held
	with.Calls, with.More = calls(save()), times(6, -1)
	without := with
	without.Cut = 1
	next := rising(2, 7, 40, -1, save())
	marksAre(t, c, runs(with, next), 0, 0, 2)
	marksAre(t, c, runs(without, next), 0, 0, 1)
	marksAre(t, c, runs(held, next), 0, 0, 1)
	marksAre(t, c, runs(with, without, next), 0, 0, 0, 2)
	// The record 2 is read behind that, and let go: 3 is there 9 steps later, or 11.
	for picks, want := range map[int]int{7: 2, 8: 2, 17: 2, 18: 3, 40: 3} {
		marksAre(t, c, runs(with, rising(3, picks, 40, -1, save())), 0, 0, want)
	}
}

// R4: what is handed in is not changed, its spare room neither.
func TestWhatIsHandedInStays(t *testing.T) {
	log := func() []api.Txn {
		writes := append(make([]api.Write, 0, 8), put("a", "1"), drop("b"), put("a", "2"))
		return append(make([]api.Txn, 0, 8), api.Txn{Number: 1, Writes: writes}, api.Txn{Number: 2}, api.Txn{Number: 3, Writes: append(make([]api.Write, 0, 4), put("c", ""))})
	}
	lives := func() []api.Run {
		x := rising(3, 40, 40, 3, save(), get("a"), api.Call{}, scan("", "b"))
		x.Calls = append(make([]api.Call, 0, 9), x.Calls...)
		x.Picks = append(make([]int, 0, 99), x.Picks...)
		x.More = append(make([]int, 0, 99), x.More...)
		return append(make([]api.Run, 0, 8), x, run(), x)
	}
	l, x := log(), lives()
	live(t, like(2, 2, 4, 1), l, 4096, x)
	if want := log(); !reflect.DeepEqual(l[:cap(l)], want[:cap(want)]) {
		t.Errorf("%v", l[:cap(l)])
	}
	for i, want := range log() {
		if a, b := l[i].Writes, want.Writes; !reflect.DeepEqual(a[:cap(a)], b[:cap(b)]) {
			t.Errorf("%v", a[:cap(a)])
		}
	}
	if want := lives(); !reflect.DeepEqual(x[:cap(x)], want[:cap(want)]) {
		t.Errorf("%+v", x[:cap(x)])
	}
	for i, want := range lives() {
		a, b := x[i], want
		if !slices.Equal(a.Calls[:cap(a.Calls)], b.Calls[:cap(b.Calls)]) || !slices.Equal(a.Picks[:cap(a.Picks)], b.Picks[:cap(b.Picks)]) || !slices.Equal(a.More[:cap(a.More)], b.More[:cap(b.More)]) {
			t.Errorf("%+v", a)
		}
	}
}

// R4, R5: answers are new memory, spare room too; asked again, whatever was done to the first ones, they are the same.
func TestAnswersAreNew(t *testing.T) {
	l := numbered(ws(put("a", "1"), put("b", "1")), ws(put("c", "2"), drop("a")), ws(put("d", "3")))
	x := runs(rising(1, 40, 40, -1, save()), rising(2, 40, 40, 0, save()), rising(2, 40, 40, 5, save()))
	ask := func() ([]api.Entry, []int) {
		store, marks, _ := life.Live(like(2, 2, 4, 2), l, 4096, x)
		return store, marks
	}
	store, marks := ask()
	other, others := ask()
	wantStore, wantMarks := slices.Clone(other), slices.Clone(others)
	store, marks = store[:cap(store)], marks[:cap(marks)]
	clear(store)
	clear(marks)
	again, agains := ask()
	if !slices.Equal(other, wantStore) || !slices.Equal(others, wantMarks) || !slices.Equal(again, wantStore) || !slices.Equal(agains, wantMarks) {
		t.Errorf("%v, %v; %v, %v", other, others, again, agains)
	}
	if !slices.Equal(wantMarks, []int{0, 1, 1, 2}) || len(wantStore) != 3 {
		t.Errorf("%v, %v", wantStore, wantMarks)
	}
}
