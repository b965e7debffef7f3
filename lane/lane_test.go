package lane_test

import (
	"math"
	"reflect"
	"slices"
	"strconv"
	"strings"
	"testing"

	"towpath/api"
	"towpath/conf"
	"towpath/lane"
)

// sized: a configuration of so many lanes and shards.
func sized(lanes, shards int) api.Config {
	return api.Config{Lanes: lanes, Shards: shards, Window: 4, Queue: 1}
}

// made: the lane of that number; there must be one.
func made(t *testing.T, number int, c api.Config) *lane.Lane {
	t.Helper()
	l, e := lane.New(number, c)
	if l == nil || e != api.OK {
		t.Fatalf("New(%d, %v) = %v, %v", number, c, l, e)
	}
	return l
}

// notMade: does New answer this error, and no lane?
func notMade(t *testing.T, number int, c api.Config, want api.Errno) {
	t.Helper()
	if l, e := lane.New(number, c); l != nil || e != want {
		t.Errorf("New(%d, %v) = %v, %v, want %v", number, c, l, e, want)
	}
}

// only: the lane 1 of one lane and one shard.
func only(t *testing.T) *lane.Lane {
	t.Helper()
	return made(t, 1, sized(1, 1))
}

// is: was it this error?
func is(t *testing.T, got, want api.Errno) {
	t.Helper()
	if got != want {
		t.Errorf("%v, want %v", got, want)
	}
}

// state: does it hold this one, and is it ready or not?
func state(t *testing.T, l *lane.Lane, holds int, ready bool) {
	t.Helper()
	if n := l.Holds(); n != holds {
		t.Errorf("Holds = %d, want %d", n, holds)
	}
	if is := l.Ready(); is != ready {
		t.Errorf("Ready = %v, want %v", is, ready)
	}
}

// next: does Next answer this shard, and the install of this write, with nothing else told?
func next(t *testing.T, l *lane.Lane, shard, from, number int, w api.Write) {
	t.Helper()
	want := api.Req{Kind: api.ReqInstall, From: from, Number: number, Write: w}
	if s, r, ok := l.Next(); s != shard || !reflect.DeepEqual(r, want) || !ok {
		t.Errorf("Next = %d, %#v, %v, want %d, %#v", s, r, ok, shard, want)
	}
}

// noNext: does Next answer that there is none, and nothing else?
func noNext(t *testing.T, l *lane.Lane) {
	t.Helper()
	if s, r, ok := l.Next(); s != 0 || !reflect.DeepEqual(r, api.Req{}) || ok {
		t.Errorf("Next = %d, %#v, %v, want none", s, r, ok)
	}
}

// done: does Done answer this number?
func done(t *testing.T, l *lane.Lane, want int) {
	t.Helper()
	if n, e := l.Done(); n != want || e != api.OK {
		t.Errorf("Done = %d, %v, want %d", n, e, want)
	}
}

// notDone: does Done answer this error, and no number?
func notDone(t *testing.T, l *lane.Lane, want api.Errno) {
	t.Helper()
	if n, e := l.Done(); n != 0 || e != want {
		t.Errorf("Done = %d, %v, want %v", n, e, want)
	}
}

// holdsNone: does every call but Take answer as of a lane that holds none?
func holdsNone(t *testing.T, l *lane.Lane) {
	t.Helper()
	state(t, l, 0, false)
	noNext(t, l)
	is(t, l.Sent(), api.ErrIdle)
	is(t, l.Acked(), api.ErrIdle)
	notDone(t, l, api.ErrIdle)
}

// put: a write of a value.
func put(key, val string) api.Write { return api.Write{Key: key, Val: val} }

// drop: a write by which the key goes.
func drop(key string) api.Write { return api.Write{Key: key, Drop: true} }

// txn: a transaction.
func txn(number int, writes ...api.Write) api.Txn {
	return api.Txn{Number: number, Writes: writes}
}

// four: the chapter's t.
func four() api.Txn { return txn(4, put("a", "1"), put("b", "2"), drop("a")) }

// many: writes of n keys, all different, that begin with one text.
func many(begin string, n int) []api.Write {
	l := make([]api.Write, n)
	for i := range l {
		l[i] = put(begin+strconv.Itoa(i), strconv.Itoa(n-i))
	}
	return l
}

// outside: ints of all kinds that are no number of a lane.
func outside() []int {
	return []int{math.MinInt, math.MinInt + 1, -1 << 32, -1<<32 + 1, -1 << 31, -65535, -256, -255, -16, -2, -1, 0, 17, 18, 255, 256, 257, 65536, 65537, 1<<31 - 1, 1 << 31, 1 << 32, 1<<32 + 1, math.MaxInt - 1, math.MaxInt}
}

// wrong: transactions that may not be.
func wrong() []api.Txn {
	long := strings.Repeat("k", api.MaxKey+1)
	l := []api.Txn{
		txn(1, put("", "x")),
		txn(1, drop("")),
		txn(1, put(long, "x")),
		txn(1, drop(long)),
		txn(1, put("a", strings.Repeat("v", api.MaxVal+1))),
		txn(1, api.Write{Key: "a", Val: "x", Drop: true}),
		txn(1, many("k", api.MaxWrites+1)...),
		txn(1, slices.Repeat([]api.Write{put("a", "1")}, api.MaxWrites+1)...),
		// what counts may be, but a write ahead of it may not
		txn(1, put("a", strings.Repeat("v", api.MaxVal+1)), put("a", "1")),
		txn(1, api.Write{Key: "a", Val: "x", Drop: true}, put("b", "2"), put("a", "1")),
		txn(1, put("a", "1"), put("", "x")),
	}
	for _, n := range []int{math.MinInt, -1 << 32, -1<<32 + 1, -65536, -1, 0, 65537, 65538, 1 << 31, 1 << 32, 1<<32 + 1, math.MaxInt} {
		l = append(l, txn(n), txn(n, put("a", "1")))
	}
	return l
}

// finish sends and acknowledges all that is left, and tells in order what was sent.
func finish(t *testing.T, l *lane.Lane) []api.Write {
	t.Helper()
	var sent []api.Write
	for {
		_, r, ok := l.Next()
		if !ok {
			break
		}
		sent = append(sent, r.Write)
		is(t, l.Sent(), api.OK)
		is(t, l.Acked(), api.OK)
	}
	done(t, l, l.Holds())
	return sent
}

// Each row of the chapter's examples.
func TestExamples(t *testing.T) {
	notMade(t, 0, sized(1, 1), api.ErrArg)
	notMade(t, 2, sized(1, 1), api.ErrArg)
	notMade(t, 1, api.Config{}, api.ErrConfig)

	l := only(t)
	state(t, l, 0, false)
	noNext(t, l)
	is(t, l.Sent(), api.ErrIdle)
	is(t, l.Acked(), api.ErrIdle)
	notDone(t, l, api.ErrIdle)

	is(t, l.Take(four()), api.OK)
	is(t, l.Take(four()), api.ErrBusy)
	state(t, l, 4, false)
	next(t, l, 0, 1, 4, put("b", "2"))

	is(t, l.Sent(), api.OK)
	next(t, l, 0, 1, 4, drop("a"))
	is(t, l.Acked(), api.OK)
	is(t, l.Acked(), api.ErrIdle)
	is(t, l.Sent(), api.OK)
	noNext(t, l)
	state(t, l, 4, false)
	notDone(t, l, api.ErrBusy)

	is(t, l.Acked(), api.OK)
	state(t, l, 4, true)
	done(t, l, 4)
	state(t, l, 0, false)

	is(t, l.Take(txn(5)), api.OK)
	state(t, l, 5, true)
	done(t, l, 5)
	is(t, l.Take(txn(0)), api.ErrArg)

	var gone *lane.Lane
	is(t, gone.Take(four()), api.ErrNil)
	noNext(t, gone)
	notDone(t, gone, api.ErrNil)
	state(t, gone, 0, false)
}

// P14.1: every number of every count of lanes, and those beside them.
func TestNewAtItsBounds(t *testing.T) {
	for lanes := 1; lanes <= api.MaxLanes; lanes++ {
		c := sized(lanes, 3)
		for n := 1; n <= lanes; n++ {
			l := made(t, n, c)
			holdsNone(t, l)
			is(t, l.Take(txn(1, put("a", "x"))), api.OK)
			next(t, l, 1, n, 1, put("a", "x"))
		}
		for n := lanes + 1; n <= api.MaxLanes+1; n++ {
			notMade(t, n, c, api.ErrArg)
		}
		for _, n := range outside() {
			notMade(t, n, c, api.ErrArg)
		}
	}
}

// P14.1: each of the four wrong, and several; ErrConfig goes ahead of ErrArg.
func TestNewOfNoConfiguration(t *testing.T) {
	for _, c := range []api.Config{
		{},
		{Lanes: 0, Shards: 1, Window: 1, Queue: 1},
		{Lanes: 17, Shards: 1, Window: 1, Queue: 1},
		{Lanes: 1, Shards: 0, Window: 1, Queue: 1},
		{Lanes: 1, Shards: 17, Window: 1, Queue: 1},
		{Lanes: 1, Shards: 1, Window: 0, Queue: 1},
		{Lanes: 1, Shards: 1, Window: 65, Queue: 1},
		{Lanes: 1, Shards: 1, Window: 1, Queue: 0},
		{Lanes: 1, Shards: 1, Window: 1, Queue: 17},
		{Lanes: -1, Shards: -1, Window: -1, Queue: -1},
		{Lanes: math.MaxInt, Shards: math.MinInt, Window: math.MaxInt, Queue: math.MinInt},
	} {
		for _, n := range append(outside(), 1, 2, 16) {
			notMade(t, n, c, api.ErrConfig)
		}
	}
	made(t, 16, api.Config{Lanes: 16, Shards: 16, Window: 64, Queue: 16})
	made(t, 1, api.Config{Lanes: 1, Shards: 1, Window: 1, Queue: 1})
}

// P14.2: all that may be at its bounds is taken, and held whole.
func TestTakeAtItsBounds(t *testing.T) {
	l := only(t)
	for _, n := range []int{1, 2, 255, 256, 32767, 32768, 65535, 65536} {
		w := []api.Write{
			put(strings.Repeat("k", api.MaxKey), strings.Repeat("v", api.MaxVal)),
			put("\x00", ""),
			put("\xff\xfe", "\x00"),
			drop(strings.Repeat("d", api.MaxKey)),
		}
		is(t, l.Take(txn(n, w...)), api.OK)
		state(t, l, n, false)
		next(t, l, 0, 1, n, w[0])
		if sent := finish(t, l); !slices.Equal(sent, w) {
			t.Errorf("of %d were sent %#v", n, sent)
		}
	}
	all := many("k", api.MaxWrites)
	is(t, l.Take(txn(7, all...)), api.OK)
	if sent := finish(t, l); !slices.Equal(sent, all) {
		t.Errorf("sent %#v, want %#v", sent, all)
	}
}

// P14.2, R2: what may not be is not taken, and leaves the lane as it was.
func TestTakeOfNoTransaction(t *testing.T) {
	l := only(t)
	for _, x := range wrong() {
		is(t, l.Take(x), api.ErrArg)
		holdsNone(t, l)
	}
	is(t, l.Take(four()), api.OK)
	state(t, l, 4, false)
}

// P14.2: ErrBusy goes ahead of ErrArg, at every moment from Take to Done; what is held stays.
func TestTakeWhileItHoldsOne(t *testing.T) {
	others := append(wrong(), four(), txn(5), txn(9, put("z", "9")))
	l := only(t)
	busy := func(ready bool) {
		t.Helper()
		for _, x := range others {
			is(t, l.Take(x), api.ErrBusy)
			state(t, l, 4, ready)
		}
	}
	is(t, l.Take(four()), api.OK)
	busy(false)
	next(t, l, 0, 1, 4, put("b", "2"))
	is(t, l.Sent(), api.OK)
	busy(false)
	next(t, l, 0, 1, 4, drop("a"))
	is(t, l.Sent(), api.OK)
	busy(false)
	noNext(t, l)
	is(t, l.Acked(), api.OK)
	busy(false)
	is(t, l.Acked(), api.OK)
	busy(true)
	done(t, l, 4)
	is(t, l.Take(txn(9, put("z", "9"))), api.OK)
	next(t, l, 0, 1, 9, put("z", "9"))

	empty := only(t)
	is(t, empty.Take(txn(5)), api.OK)
	is(t, empty.Take(txn(0)), api.ErrBusy)
	is(t, empty.Take(txn(6)), api.ErrBusy)
	done(t, empty, 5)
}

// P14.2: a number may come again, and a smaller one behind a greater one: a lane does not ask in which order they come.
func TestTakeInAnyOrder(t *testing.T) {
	l := only(t)
	for _, n := range []int{9, 3, 3, 65536, 1} {
		is(t, l.Take(txn(n, put("a", strconv.Itoa(n)))), api.OK)
		next(t, l, 0, 1, n, put("a", strconv.Itoa(n)))
		finish(t, l)
		holdsNone(t, l)
	}
}

// P14.3: of each key the last write counts, and they go out as these last ones stand, not as the first ones do, nor by their keys.
func TestWritesThatCount(t *testing.T) {
	for _, d := range []struct{ writes, want []api.Write }{
		{nil, nil},
		{[]api.Write{}, nil},
		{[]api.Write{put("a", "1")}, []api.Write{put("a", "1")}},
		{[]api.Write{put("b", "1"), put("a", "2")}, []api.Write{put("b", "1"), put("a", "2")}},
		{[]api.Write{put("a", "1"), put("a", "2")}, []api.Write{put("a", "2")}},
		{[]api.Write{put("a", "1"), put("a", "1")}, []api.Write{put("a", "1")}},
		{[]api.Write{put("a", "1"), drop("a")}, []api.Write{drop("a")}},
		{[]api.Write{drop("a"), put("a", "")}, []api.Write{put("a", "")}},
		{[]api.Write{drop("a"), drop("a")}, []api.Write{drop("a")}},
		{[]api.Write{put("a", "1"), put("b", "2"), put("a", "3")}, []api.Write{put("b", "2"), put("a", "3")}},
		{[]api.Write{put("a", "1"), put("b", "2"), put("c", "3"), put("b", "4"), put("a", "5")}, []api.Write{put("c", "3"), put("b", "4"), put("a", "5")}},
		{[]api.Write{put("b", "1"), put("a", "2"), put("b", "3"), put("a", "4")}, []api.Write{put("b", "3"), put("a", "4")}},
		{[]api.Write{put("a", "1"), put("a\x00", "2"), put("A", "3"), put("aa", "4")}, []api.Write{put("a", "1"), put("a\x00", "2"), put("A", "3"), put("aa", "4")}},
		{slices.Repeat([]api.Write{put("x", "1"), drop("y")}, 16), []api.Write{put("x", "1"), drop("y")}},
		{append(many("k", 16), many("k", 16)...), many("k", 16)},
	} {
		l := only(t)
		is(t, l.Take(txn(8, d.writes...)), api.OK)
		if sent := finish(t, l); !slices.Equal(sent, d.want) {
			t.Errorf("of %#v were sent %#v, want %#v", d.writes, sent, d.want)
		}
	}
}

// P14.3: the shard is that of the key, by the lane's own configuration.
func TestNextTellsTheShard(t *testing.T) {
	known := []struct {
		key  string
		hash uint32
	}{{"a", 0xe40c292c}, {"b", 0xe70c2de5}, {"foobar", 0xbf9cf968}, {"\x00", 0x050c5d1f}}
	for shards := 1; shards <= api.MaxShards; shards++ {
		c := sized(2, shards)
		l := made(t, 2, c)
		is(t, l.Take(txn(3, put("a", "1"), drop("b"), put("foobar", "x"), put("\x00", ""))), api.OK)
		for i, w := range []api.Write{put("a", "1"), drop("b"), put("foobar", "x"), put("\x00", "")} {
			next(t, l, int(known[i].hash%uint32(shards)), 2, 3, w)
			is(t, l.Sent(), api.OK)
		}
		for _, w := range many("key", api.MaxWrites) {
			other := made(t, 1, c)
			is(t, other.Take(txn(3, w)), api.OK)
			s, e := conf.Shard(c, w.Key)
			is(t, e, api.OK)
			next(t, other, s, 1, 3, w)
		}
	}
}

// P14.3, P14.7: what Next tells is the same until Sent, whatever else is asked.
func TestNextStaysUntilSent(t *testing.T) {
	l := only(t)
	is(t, l.Take(four()), api.OK)
	is(t, l.Sent(), api.OK)
	for range 3 {
		next(t, l, 0, 1, 4, drop("a"))
		state(t, l, 4, false)
		is(t, l.Take(txn(7, put("q", "q"))), api.ErrBusy)
		notDone(t, l, api.ErrBusy)
	}
	is(t, l.Acked(), api.OK)
	is(t, l.Acked(), api.ErrIdle)
	next(t, l, 0, 1, 4, drop("a"))
}

// P14.3: once all are sent, Sent says so, and no more is out for it.
func TestSentBehindTheLast(t *testing.T) {
	l := only(t)
	is(t, l.Take(txn(2, put("a", "1"))), api.OK)
	is(t, l.Sent(), api.OK)
	for range 3 {
		is(t, l.Sent(), api.ErrIdle)
		noNext(t, l)
	}
	is(t, l.Acked(), api.OK)
	is(t, l.Acked(), api.ErrIdle)
	is(t, l.Sent(), api.ErrIdle)
	state(t, l, 2, true)
	done(t, l, 2)
}

// P14.4: as many may be acknowledged as are out: all at the end, or each one at once.
func TestAcked(t *testing.T) {
	all := many("k", api.MaxWrites)
	for step := 1; step <= api.MaxWrites; step++ {
		l := only(t)
		is(t, l.Take(txn(2, all...)), api.OK)
		out := 0
		for i := range all {
			is(t, l.Sent(), api.OK)
			out++
			if (i+1)%step != 0 {
				continue
			}
			for range out {
				is(t, l.Acked(), api.OK)
			}
			out = 0
			is(t, l.Acked(), api.ErrIdle)
			state(t, l, 2, i+1 == len(all))
		}
		for range out {
			state(t, l, 2, false)
			is(t, l.Acked(), api.OK)
		}
		is(t, l.Acked(), api.ErrIdle)
		done(t, l, 2)
	}
}

// P14.5, P14.6: none out but some not sent, and all sent but some out: neither is ready; both errors change nothing.
func TestDoneAheadOfTime(t *testing.T) {
	l := only(t)
	is(t, l.Take(txn(6, put("a", "1"), put("b", "2"))), api.OK)
	notReady := func() {
		t.Helper()
		state(t, l, 6, false)
		notDone(t, l, api.ErrBusy)
		notDone(t, l, api.ErrBusy)
		state(t, l, 6, false)
	}
	notReady()
	is(t, l.Acked(), api.ErrIdle)
	notReady()
	is(t, l.Sent(), api.OK)
	notReady()
	is(t, l.Acked(), api.OK)
	notReady()
	next(t, l, 0, 1, 6, put("b", "2"))
	is(t, l.Sent(), api.OK)
	notReady()
	is(t, l.Acked(), api.OK)
	state(t, l, 6, true)
	state(t, l, 6, true)
	done(t, l, 6)
	holdsNone(t, l)
}

// P14.7: a transaction without writes is ready at once, and has nothing to send or to acknowledge.
func TestTransactionsWithoutWrites(t *testing.T) {
	l := only(t)
	for _, x := range []api.Txn{{Number: 1}, {Number: 65536, Writes: []api.Write{}}} {
		is(t, l.Take(x), api.OK)
		state(t, l, x.Number, true)
		noNext(t, l)
		is(t, l.Sent(), api.ErrIdle)
		is(t, l.Acked(), api.ErrIdle)
		state(t, l, x.Number, true)
		done(t, l, x.Number)
		holdsNone(t, l)
	}
}

// P14.5: a lane that is done takes the next one, of which nothing was sent, whatever the last one left.
func TestOneBehindTheOther(t *testing.T) {
	l := made(t, 3, sized(4, 1))
	is(t, l.Take(four()), api.OK)
	finish(t, l)
	is(t, l.Take(four()), api.OK)
	next(t, l, 0, 3, 4, put("b", "2"))
	is(t, l.Acked(), api.ErrIdle)
	if sent := finish(t, l); !slices.Equal(sent, []api.Write{put("b", "2"), drop("a")}) {
		t.Errorf("sent %#v", sent)
	}
}

// R3: a nil lane and a zero struct are none, to every call, and stay none.
func TestLanesThatAreNotThere(t *testing.T) {
	for _, l := range []*lane.Lane{nil, {}, new(lane.Lane)} {
		for range 2 {
			for _, x := range append(wrong(), four(), txn(5)) {
				is(t, l.Take(x), api.ErrNil)
			}
			noNext(t, l)
			is(t, l.Sent(), api.ErrNil)
			is(t, l.Acked(), api.ErrNil)
			notDone(t, l, api.ErrNil)
			state(t, l, 0, false)
		}
	}
}

// R4: what is handed in is neither changed nor kept, nor its spare room.
func TestWhatIsHandedInStays(t *testing.T) {
	room := []api.Write{put("a", "1"), put("b", "2"), drop("a"), put("spare", "room")}
	was := slices.Clone(room)
	l := only(t)
	is(t, l.Take(api.Txn{Number: 4, Writes: room[:3]}), api.OK)
	is(t, l.Sent(), api.OK)
	is(t, l.Acked(), api.OK)
	if !slices.Equal(room, was) {
		t.Errorf("changed to %#v", room)
	}
	for i := range room {
		room[i] = put("z", "z")
	}
	next(t, l, 0, 1, 4, drop("a"))
	is(t, l.Sent(), api.OK)
	noNext(t, l)

	one := []api.Write{put("a", "1"), put("b", "2")}
	l = only(t)
	is(t, l.Take(api.Txn{Number: 4, Writes: one}), api.OK)
	one[0], one[1] = put("b", "9"), put("b", "8")
	next(t, l, 0, 1, 4, put("a", "1"))
	is(t, l.Sent(), api.OK)
	next(t, l, 0, 1, 4, put("b", "2"))
}

// R4: what Next answered may be changed.
func TestWhatIsAnsweredIsNew(t *testing.T) {
	l := only(t)
	is(t, l.Take(four()), api.OK)
	_, r, _ := l.Next()
	r.Write, r.Number, r.Beyond = put("z", "z"), 9, append(r.Beyond, 1)
	next(t, l, 0, 1, 4, put("b", "2"))
}

// R5: two lanes share nothing, not even of one number and one transaction.
func TestTwoLanes(t *testing.T) {
	x := four()
	a, b := made(t, 1, sized(2, 1)), made(t, 2, sized(2, 1))
	same := made(t, 1, sized(2, 1))
	is(t, a.Take(x), api.OK)
	holdsNone(t, b)
	is(t, b.Take(x), api.OK)
	is(t, same.Take(x), api.OK)
	is(t, a.Sent(), api.OK)
	next(t, a, 0, 1, 4, drop("a"))
	next(t, b, 0, 2, 4, put("b", "2"))
	next(t, same, 0, 1, 4, put("b", "2"))
	is(t, b.Acked(), api.ErrIdle)
	is(t, same.Acked(), api.ErrIdle)
	is(t, a.Acked(), api.OK)
	finish(t, a)
	state(t, b, 4, false)
	state(t, same, 4, false)
}
