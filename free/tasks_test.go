package free

import (
	"math/rand"
	"slices"
	"strconv"
	"testing"
	"testing/synctest"

	"towpath/api"
	"towpath/conf"
)

// Here each task goes alone, in a bubble that tells when it can go on no more, while the test plays all others.

// put and drop: a write of a value, and one by which a key goes.
func put(key, val string) api.Write { return api.Write{Key: key, Val: val} }
func drop(key string) api.Write     { return api.Write{Key: key, Drop: true} }

// txn: the transaction of this number with these writes.
func txn(number int, writes ...api.Write) api.Txn {
	return api.Txn{Number: number, Writes: writes}
}

// logT is the document's log.
func logT() []api.Txn {
	return []api.Txn{txn(1, put("a", "1")), txn(2, put("b", "2")), txn(3, put("a", "3"), drop("b"))}
}

// apart: a log of so many transactions, no two of them neighbours.
func apart(n int) []api.Txn {
	l := make([]api.Txn, n)
	for i := range l {
		l[i] = txn(i+1, put("k"+strconv.Itoa(i), ""))
	}
	return l
}

// like: a configuration.
func like(lanes, shards, window, queue int) api.Config {
	return api.Config{Lanes: lanes, Shards: shards, Window: window, Queue: queue}
}

// waiting: what comes from a channel now, without waiting for a task that could go on; false: nothing does, or it is closed.
func waiting[T any](c <-chan T) (T, bool) {
	synctest.Wait()
	select {
	case x, more := <-c:
		return x, more
	default:
		var none T
		return none, false
	}
}

// comes: this comes from a channel now.
func comes[T comparable](t *testing.T, c <-chan T, want T) {
	t.Helper()
	if x, ok := waiting(c); !ok || x != want {
		t.Fatalf("comes %+v, %v, want %+v", x, ok, want)
	}
}

// silent: nothing comes from a channel now.
func silent[T any](t *testing.T, c <-chan T) {
	t.Helper()
	if x, ok := waiting(c); ok {
		t.Fatalf("comes %+v", x)
	}
}

// takes: a task takes this from a channel now.
func takes[T any](t *testing.T, c chan<- T, x T) {
	t.Helper()
	synctest.Wait()
	select {
	case c <- x:
	default:
		t.Fatalf("%+v is not taken", x)
	}
}

// started: a task, and what is closed when it has ended.
func started(task func()) <-chan int {
	ended := make(chan int)
	go func() {
		defer close(ended)
		task()
	}()
	return ended
}

// isOver: is a channel closed?
func isOver[T any](c <-chan T) bool {
	synctest.Wait()
	select {
	case _, more := <-c:
		return !more
	default:
		return false
	}
}

// board plays lanes and the gate against a dispatcher.
type board struct {
	t      *testing.T
	r      *run
	ended  <-chan int
	there  map[int]bool
	mark   int
	handed []int // in their order
}

// newBoard: a dispatcher of a log goes.
func newBoard(t *testing.T, c api.Config, l []api.Txn) *board {
	r := newRun(c, l)
	return &board{t: t, r: r, ended: started(r.dispatcher), there: map[int]bool{}}
}

// take all that the dispatcher hands out now; these.
func (b *board) take() []int {
	var l []int
	for {
		x, ok := waiting(b.r.line)
		if !ok {
			b.handed = append(b.handed, l...)
			return l
		}
		l = append(l, x.Number)
	}
}

// hands: just these come now, in this order.
func (b *board) hands(want ...int) {
	b.t.Helper()
	if l := b.take(); !slices.Equal(l, want) {
		b.t.Fatalf("handed %v, want %v", l, want)
	}
}

// pass: these are there, one behind the other.
func (b *board) pass(l ...int) {
	b.t.Helper()
	for _, n := range l {
		b.there[n] = true
		for b.there[b.mark+1] {
			b.mark++
		}
		takes(b.t, b.r.passed, passage{n, b.mark})
	}
}

// over: it has closed the line, and ended.
func (b *board) over(want bool) {
	b.t.Helper()
	if line, ended := isOver(b.r.line), isOver(b.ended); line != want || ended != want {
		b.t.Fatalf("the line is closed: %v, the dispatcher has ended: %v, want %v", line, ended, want)
	}
}

// P25.3: T: 3 waits for 1 and 2, whichever of them ends first.
func TestDispatcherWaits(t *testing.T) {
	for _, order := range [][]int{{1, 2}, {2, 1}} {
		synctest.Test(t, func(t *testing.T) {
			b := newBoard(t, like(2, 2, 4, 1), logT())
			b.hands(1, 2)
			b.pass(order[0])
			b.hands()
			b.pass(order[1])
			b.hands(3)
			b.over(false)
			b.pass(3)
			b.over(true)
		})
	}
}

// P25.3: with the window 1 each comes only when the one ahead is there.
func TestDispatcherOfTheLeastWindow(t *testing.T) {
	synctest.Test(t, func(t *testing.T) {
		b := newBoard(t, like(2, 2, 1, 1), apart(20))
		for n := 1; n <= 20; n++ {
			b.hands(n)
			b.over(false)
			b.pass(n)
		}
		b.over(true)
	})
}

// P25.3: no more than the window lie between the mark and the newest one; what is there beyond the mark moves nothing.
func TestDispatcherKeepsTheWindow(t *testing.T) {
	synctest.Test(t, func(t *testing.T) {
		b := newBoard(t, like(2, 2, 4, 1), apart(11))
		b.hands(1, 2, 3, 4)
		b.pass(3, 4, 2)
		b.hands()
		b.pass(1)
		b.hands(5, 6, 7, 8)
		b.pass(5)
		b.hands(9)
		b.pass(8, 6)
		b.hands(10)
		b.pass(7)
		b.hands(11)
		b.pass(11, 10, 9)
		b.over(true)
	})
	for _, window := range []int{1, 2, 63, 64} {
		synctest.Test(t, func(t *testing.T) {
			b := newBoard(t, like(1, 1, window, 1), apart(200))
			for n := range 200 {
				b.take()
				if want := min(n+window, 200); len(b.handed) != want {
					t.Fatalf("window %d, mark %d: handed %d", window, n, len(b.handed))
				}
				b.pass(n + 1)
			}
			b.over(true)
		})
	}
}

// P25.3: those that wait for a lane come in the order in which they began to, what one frees rising.
func TestDispatcherHasALine(t *testing.T) {
	l := []api.Txn{txn(1, put("a", "")), txn(2, put("b", "")), txn(3, drop("b")), txn(4, drop("a")), txn(5, put("c", "")), txn(6, put("c", "6"), put("b", "6"))}
	for _, x := range []struct{ passed, handed []int }{
		{[]int{2, 1}, []int{3, 4}},
		{[]int{1, 2}, []int{4, 3}},
		{[]int{5, 1, 2}, []int{4, 3}},
		{[]int{2, 5, 1}, []int{3, 4}},
	} {
		synctest.Test(t, func(t *testing.T) {
			b := newBoard(t, like(2, 2, 6, 1), l)
			b.hands(1, 2, 5)
			b.pass(x.passed...)
			b.hands(x.handed...)
			b.pass(3, 4)
			if !b.there[5] {
				b.hands()
				b.pass(5)
			}
			b.hands(6)
			b.pass(6)
			b.over(true)
		})
	}
	synctest.Test(t, func(t *testing.T) {
		b := newBoard(t, like(2, 2, 6, 1), []api.Txn{txn(1, put("a", ""), put("b", "")), txn(2, put("b", "")), txn(3, put("a", "")), txn(4, put("c", ""))})
		b.hands(1, 4)
		b.pass(1)
		b.hands(2, 3)
		b.pass(2, 3, 4)
		b.over(true)
	})
}

// P25.4: without a log there is nothing to hand out.
func TestDispatcherWithoutLog(t *testing.T) {
	synctest.Test(t, func(t *testing.T) {
		newBoard(t, like(2, 2, 4, 1), nil).over(true)
	})
}

// someLog of so many transactions, by the dice: keys are few, so that they meet.
func someLog(dice *rand.Rand, length int) []api.Txn {
	l := make([]api.Txn, length)
	keys := 1 + dice.Intn(20)
	for i := range l {
		l[i].Number = i + 1
		for range dice.Intn(4) {
			w := put("k"+strconv.Itoa(dice.Intn(keys)), strconv.Itoa(i+1))
			if dice.Intn(3) == 0 {
				w = drop(w.Key)
			}
			l[i].Writes = append(l[i].Writes, w)
		}
	}
	return l
}

// neighbours: is some key written by both?
func neighbours(a, b api.Txn) bool {
	return slices.ContainsFunc(a.Writes, func(w api.Write) bool {
		return slices.ContainsFunc(b.Writes, func(x api.Write) bool { return x.Key == w.Key })
	})
}

// mayGo: is one within the window, and are all neighbours ahead of it there?
func mayGo(l []api.Txn, there map[int]bool, limit, number int) bool {
	return number <= limit && !slices.ContainsFunc(l[:number-1], func(x api.Txn) bool {
		return !there[x.Number] && neighbours(x, l[number-1])
	})
}

// P25.3, P0.4, P0.7: just those are handed out that the window holds and that wait for none, in whatever order they end.
func TestDispatcherByTheDice(t *testing.T) {
	waited, full := 0, 0
	for seed := range int64(300) {
		synctest.Test(t, func(t *testing.T) {
			dice := rand.New(rand.NewSource(seed))
			l := someLog(dice, dice.Intn(40))
			c := like(1, 1, 1+dice.Intn(12), 1)
			b := newBoard(t, c, l)
			for len(b.there) < len(l) {
				b.take()
				var want, held []int
				for n := range l {
					if mayGo(l, b.there, b.mark+c.Window, n+1) {
						want = append(want, n+1)
					} else if n < b.mark+c.Window {
						waited++
					} else {
						full++
					}
				}
				if got := slices.Sorted(slices.Values(b.handed)); !slices.Equal(got, want) {
					t.Fatalf("seed %d, mark %d: handed %v, want %v", seed, b.mark, got, want)
				}
				for _, n := range b.handed {
					if !b.there[n] {
						held = append(held, n)
					}
				}
				b.pass(held[dice.Intn(len(held))])
			}
			b.over(true)
		})
	}
	if waited < 1000 || full < 1000 {
		t.Errorf("waited %d times, were beyond the window %d times", waited, full)
	}
}

// gateBoard plays the dispatcher, lanes and calls against a gate.
type gateBoard struct {
	t     *testing.T
	r     *run
	ended <-chan int
}

func newGateBoard(t *testing.T) gateBoard {
	r := newRun(like(2, 2, 64, 1), apart(100))
	return gateBoard{t, r, started(r.gate)}
}

// done: all writes of one are installed; the mark is this then.
func (b gateBoard) done(number, mark int) {
	b.t.Helper()
	takes(b.t, b.r.done, number)
	comes(b.t, b.r.passed, passage{number, mark})
	silent(b.t, b.r.passed)
}

// begins: a call begins, at this mark; the least one in use.
func (b gateBoard) begins(mark, least int) {
	b.t.Helper()
	comes(b.t, b.r.begins, start{mark, least})
}

// end: a call that began at this mark ends.
func (b gateBoard) end(mark int) {
	b.t.Helper()
	takes(b.t, b.r.ends, mark)
}

// P25.3, P0.2: the mark goes up as far as all is there, and the dispatcher is told of each number.
func TestGateHasAMark(t *testing.T) {
	synctest.Test(t, func(t *testing.T) {
		b := newGateBoard(t)
		silent(t, b.r.passed)
		b.done(2, 0)
		b.done(4, 0)
		b.begins(0, 0)
		b.end(0)
		b.done(1, 2)
		b.begins(2, 2)
		b.end(2)
		b.done(3, 4)
		b.done(5, 5)
		b.begins(5, 5)
		close(b.r.done)
		close(b.r.ends)
		if !isOver(b.ended) {
			t.Error("the gate has not ended")
		}
	})
}

// P0.8: the least mark in use is that of the call that began first of those that have not ended, or the mark.
func TestGateTellsTheLeastMark(t *testing.T) {
	synctest.Test(t, func(t *testing.T) {
		b := newGateBoard(t)
		b.begins(0, 0)
		b.done(1, 1)
		b.begins(1, 0)
		b.begins(1, 0)
		b.end(0)
		b.done(2, 2)
		b.begins(2, 1)
		b.end(1)
		b.begins(2, 1) // another one of the mark 1 goes on
		b.end(1)
		b.done(3, 3)
		b.begins(3, 2)
		b.end(3)
		b.begins(3, 2)
		b.end(2)
		b.end(2)
		b.begins(3, 3)
		b.end(3)
		b.end(3)
		b.done(4, 4)
		b.begins(4, 4)
		b.done(5, 5)
		b.begins(5, 4)
		b.end(5) // the later one ends first
		b.begins(5, 4)
		b.end(4)
		b.begins(5, 5)
		close(b.r.ends)
		close(b.r.done)
		if !isOver(b.ended) {
			t.Error("the gate has not ended")
		}
	})
}

// P25.4: the gate goes on while there are lanes or calls.
func TestGateEnds(t *testing.T) {
	synctest.Test(t, func(t *testing.T) {
		b := newGateBoard(t)
		b.done(1, 1)
		close(b.r.done)
		if isOver(b.ended) {
			t.Fatal("the gate has ended ahead of the calls")
		}
		b.begins(1, 1)
		b.end(1)
		b.begins(1, 1)
		close(b.r.ends)
		if !isOver(b.ended) {
			t.Fatal("the gate has not ended")
		}
		b = newGateBoard(t)
		close(b.r.ends)
		b.done(2, 0)
		if isOver(b.ended) {
			t.Fatal("the gate has ended ahead of the lanes")
		}
		b.done(1, 2)
		close(b.r.done)
		if !isOver(b.ended) {
			t.Fatal("the gate has not ended")
		}
	})
}

// install is what a lane asks for.
func install(lane, number int, w api.Write) api.Req {
	return api.Req{Kind: api.ReqInstall, From: lane, Number: number, Write: w}
}

// asked: this request waits in the shard's queue; it is taken out.
func asked(t *testing.T, r *run, shard int, want api.Req) request {
	t.Helper()
	q, ok := waiting(r.queues[shard])
	if !ok || q.what.Kind != want.Kind || q.what.From != want.From || q.what.Number != want.Number || q.what.Write != want.Write || q.what.Key != want.Key || q.what.End != want.End || len(q.what.Beyond) != 0 {
		t.Fatalf("shard %d is asked %+v, want %+v", shard, q.what, want)
	}
	return q
}

// P25.3: a lane asks for the writes that count, in their order, as the queue has room; it is done when all are installed, and takes no other one ahead of that.
func TestLaneInstalls(t *testing.T) {
	synctest.Test(t, func(t *testing.T) {
		r := newRun(like(3, 1, 4, 2), apart(9))
		ended := started(func() { r.lane(2) })
		takes(t, r.line, txn(4, put("a", "1"), put("b", "2"), drop("a"), put("c", "3"), put("c", "4"), put("a", "5"), drop("d")))
		want := []api.Req{install(2, 4, put("b", "2")), install(2, 4, put("c", "4")), install(2, 4, put("a", "5")), install(2, 4, drop("d"))}
		synctest.Wait()
		if len(r.queues[0]) != 2 || cap(r.queues[0]) != 2 {
			t.Fatalf("%d wait in the queue, of %d", len(r.queues[0]), cap(r.queues[0]))
		}
		var all []request
		for _, w := range want {
			silent(t, r.done)
			all = append(all, asked(t, r, 0, w))
		}
		silent(t, r.queues[0])
		for _, q := range all {
			silent(t, r.done)
			q.replies <- api.Resp{To: 2, OK: true} // there is room: an owner need not wait
		}
		synctest.Wait()
		select {
		case r.line <- txn(5):
			t.Fatal("it takes another one ahead of its end")
		default:
		}
		comes(t, r.done, 4)
		takes(t, r.line, txn(5))
		comes(t, r.done, 5)
		takes(t, r.line, txn(6, drop("a")))
		asked(t, r, 0, install(2, 6, drop("a"))).replies <- api.Resp{To: 2, OK: true}
		comes(t, r.done, 6)
		if isOver(ended) {
			t.Fatal("the lane has ended")
		}
		close(r.line)
		if !isOver(ended) {
			t.Fatal("the lane has not ended")
		}
	})
}

// P25.3: each write goes to the shard of its key; replies of any number come ahead of the last request.
func TestLaneAsksShards(t *testing.T) {
	synctest.Test(t, func(t *testing.T) {
		c := like(1, 7, 4, 1)
		r := newRun(c, apart(1))
		started(func() { r.lane(1) })
		var l []api.Write
		for n := range api.MaxWrites {
			l = append(l, put("key"+strconv.Itoa(n), ""))
		}
		takes(t, r.line, txn(1, l...))
		for _, w := range l {
			shard, _ := conf.Shard(c, w.Key)
			asked(t, r, shard, install(1, 1, w)).replies <- api.Resp{To: 1, OK: true}
		}
		comes(t, r.done, 1)
		close(r.line)
	})
}

// P25.3: an owner serves what waits in its queue, in order; when nobody asks any more, it tells what is there behind the whole log.
func TestOwnerServes(t *testing.T) {
	synctest.Test(t, func(t *testing.T) {
		r := newRun(like(2, 2, 4, 4), apart(3))
		var store []api.Entry
		ended := started(func() { store = r.owner(1) })
		replies := make(chan api.Resp, 1)
		ask := func(q api.Req) api.Resp {
			r.queues[1] <- request{q, replies}
			return <-replies
		}
		is := func(q api.Req, ok bool, count int, want ...api.Entry) {
			t.Helper()
			if a := ask(q); a.To != q.From || a.OK != ok || a.Count != count || !slices.Equal(a.Entries, want) || len(a.Held) != 0 {
				t.Fatalf("%+v: %+v", q, a)
			}
		}
		get := func(key string, mark int) api.Req {
			return api.Req{Kind: api.ReqGet, From: -1, Number: mark, Key: key}
		}
		scan := func(key, end string, mark int) api.Req {
			return api.Req{Kind: api.ReqScan, From: -2, Number: mark, Key: key, End: end}
		}
		collect := func(least int) api.Req { return api.Req{Kind: api.ReqCollect, From: -3, Number: least} }
		a1, b2, a3 := api.Entry{Key: "a", Val: "1"}, api.Entry{Key: "b", Val: "2"}, api.Entry{Key: "a", Val: "3"}

		is(get("a", 3), false, 0)
		is(install(1, 1, put("a", "1")), true, 0)
		is(install(2, 2, put("b", "2")), true, 0)
		is(install(1, 3, put("a", "3")), true, 0)
		is(install(1, 3, drop("b")), true, 0)
		is(install(1, 3, drop("b")), false, 0)
		is(get("a", 0), false, 0)
		is(get("a", 2), true, 0, a1)
		is(get("a", 3), true, 0, a3)
		is(get("b", 2), true, 0, b2)
		is(get("b", 3), false, 0)
		is(scan("", "", 2), true, 0, a1, b2)
		is(scan("b", "", 2), true, 0, b2)
		is(scan("", "b", 2), true, 0, a1)
		is(scan("", "", 3), true, 0, a3)
		is(collect(2), true, 0)
		is(scan("", "", 2), true, 0, a1, b2)
		is(collect(3), true, 2)
		is(scan("", "", 3), true, 0, a3)
		if isOver(ended) {
			t.Fatal("the owner has ended")
		}
		close(r.queues[1])
		if !isOver(ended) || !slices.Equal(store, []api.Entry{a3}) {
			t.Fatalf("in the end: %v", store)
		}
	})
}

// asking: a call goes; what it answers comes from the channel.
func asking(r *run, number int, x api.Call) <-chan api.Answer {
	c := make(chan api.Answer, 1)
	go func() { c <- r.call(number, x) }()
	return c
}

// P25.2: a call asks for what it must only when it has begun, at that mark; it is in use till all replies are there.
func TestCallBeginsAndEnds(t *testing.T) {
	a1 := api.Entry{Key: "a", Val: "1"}
	synctest.Test(t, func(t *testing.T) {
		c := like(1, 3, 4, 1)
		r := newRun(c, apart(9))
		shard, _ := conf.Shard(c, "a")
		answer := asking(r, -4, api.Call{Kind: api.CallGet, Key: "a"})
		silent(t, r.queues[shard])
		takes(t, r.begins, start{7, 3})
		q := asked(t, r, shard, api.Req{Kind: api.ReqGet, From: -4, Number: 7, Key: "a"})
		silent(t, r.ends)
		q.replies <- api.Resp{To: -4, OK: true, Entries: []api.Entry{a1}}
		silent(t, answer)
		comes(t, r.ends, 7)
		if a, ok := waiting(answer); !ok || a.Code != api.OK || a.Mark != 7 || !a.OK || !slices.Equal(a.Entries, []api.Entry{a1}) || a.Count != 0 {
			t.Fatalf("%+v, %v", a, ok)
		}
	})
	synctest.Test(t, func(t *testing.T) {
		r := newRun(like(1, 3, 4, 1), apart(9))
		answer := asking(r, -1, api.Call{Kind: api.CallCollect})
		takes(t, r.begins, start{7, 3})
		var all []request
		for shard := range 3 {
			all = append(all, asked(t, r, shard, api.Req{Kind: api.ReqCollect, From: -1, Number: 3}))
		}
		for n, shard := range []int{2, 0, 1} { // in any order
			silent(t, r.ends)
			all[shard].replies <- api.Resp{To: -1, OK: true, Count: n + 1}
		}
		comes(t, r.ends, 7)
		if a, ok := waiting(answer); !ok || a.Code != api.OK || a.Mark != 7 || !a.OK || len(a.Entries) != 0 || a.Count != 6 {
			t.Fatalf("%+v, %v", a, ok)
		}
	})
	synctest.Test(t, func(t *testing.T) {
		r := newRun(like(1, 2, 4, 1), apart(9))
		answer := asking(r, -9, api.Call{Kind: api.CallScan, Key: "a", End: "x"})
		r.queues[1] <- request{what: install(1, 1, put("k0", ""))} // so that it has to wait there
		takes(t, r.begins, start{0, 0})
		b2 := api.Entry{Key: "b", Val: "2"}
		for shard, e := range []api.Entry{b2, a1} {
			q := asked(t, r, shard, api.Req{Kind: api.ReqScan, From: -9, Key: "a", End: "x"})
			takes(t, q.replies, api.Resp{To: -9, OK: true, Entries: []api.Entry{e}}) // an owner need not wait
			if shard == 0 {
				asked(t, r, 1, install(1, 1, put("k0", "")))
			}
		}
		comes(t, r.ends, 0)
		if a, ok := waiting(answer); !ok || a.Code != api.OK || a.Mark != 0 || !a.OK || !slices.Equal(a.Entries, []api.Entry{a1, b2}) || a.Count != 0 {
			t.Fatalf("%+v, %v", a, ok)
		}
	})
}
