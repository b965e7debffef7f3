package free

import (
	"math/rand"
	"slices"
	"sync"
	"testing"
	"testing/synctest"

	"towpath/api"
	"towpath/fold"
)

// watcher stands between the dispatcher and the lanes, and between these and the gate, while all of them run as they like; so it sees what is handed out, and what ended ahead of it.
type watcher struct {
	r, lanes *run // as the dispatcher and the gate have it; as the lanes have it
	there    map[int]bool
	mark     int
	handed   map[int]bool
	held     []api.Txn // on their way to the lanes
	wrong    []int     // handed out twice, too early, or beyond the window
	most     int       // the most that were handed out and not there
}

// watch goes on till the dispatcher and the lanes have ended.
func (w *watcher) watch() {
	line, done := w.r.line, w.lanes.done
	for line != nil || done != nil {
		var out chan<- api.Txn
		var first api.Txn
		if len(w.held) > 0 {
			out, first = w.lanes.line, w.held[0]
		}
		select {
		case x, more := <-line:
			if !more {
				line = nil
				close(w.lanes.line)
				continue
			}
			w.hand(x)
		case out <- first:
			w.held = w.held[1:]
		case n, more := <-done:
			if !more {
				done = nil
				close(w.r.done)
				continue
			}
			w.end(n)
			w.r.done <- n
		}
	}
}

// hand: the dispatcher hands one out. May it?
func (w *watcher) hand(x api.Txn) {
	if w.handed[x.Number] || !mayGo(w.r.log, w.there, w.mark+w.r.conf.Window, x.Number) {
		w.wrong = append(w.wrong, x.Number)
	}
	w.handed[x.Number] = true
	w.held = append(w.held, x)
	w.most = max(w.most, len(w.handed)-len(w.there))
}

// end: a lane is done with one.
func (w *watcher) end(number int) {
	w.there[number] = true
	for w.there[w.mark+1] {
		w.mark++
	}
}

// watched: the run of a log with calls, as whole has it, but for the watcher; the store, the answers, and what was seen.
func watched(c api.Config, l []api.Txn, calls []api.Call) ([]api.Entry, []api.Answer, *watcher) {
	r := newRun(c, l)
	side := *r
	side.line, side.done = make(chan api.Txn), make(chan int)
	w := &watcher{r: r, lanes: &side, there: map[int]bool{}, handed: map[int]bool{}}
	parts, answers := make([][]api.Entry, c.Shards), make([]api.Answer, len(calls))
	var lanes, callers, others sync.WaitGroup
	others.Go(w.watch)
	others.Go(r.dispatcher)
	others.Go(r.gate)
	for n := range c.Lanes {
		lanes.Go(func() { side.lane(n + 1) })
	}
	for n := range parts {
		others.Go(func() { parts[n] = r.owner(n) })
	}
	for n, x := range calls {
		callers.Go(func() { answers[n] = r.call(-n-1, x) })
	}
	lanes.Wait()
	close(side.done)
	callers.Wait()
	close(r.ends)
	for _, q := range r.queues {
		close(q)
	}
	others.Wait()
	return together(parts), answers, w
}

// P25.3, P0.4, P0.7: as goroutines fall, none is handed out ahead of one that it waits for, nor beyond the window; and those that need not wait go side by side.
func TestWatchedRuns(t *testing.T) {
	calls := []api.Call{{Kind: api.CallScan}, {Kind: api.CallCollect}, {Kind: api.CallGet, Key: "k1"}, {Kind: api.CallCollect}}
	most := 0
	for seed := range int64(400) {
		dice := rand.New(rand.NewSource(seed))
		l := someLog(dice, dice.Intn(120))
		c := like(1+dice.Intn(4), 1+dice.Intn(4), 1+dice.Intn(16), 1+dice.Intn(3))
		store, answers, w := watched(c, l, calls[:dice.Intn(5)])
		if want, _ := fold.Store(l, len(l)); !slices.Equal(store, want) {
			t.Fatalf("seed %d: %v, want %v", seed, store, want)
		}
		if len(w.wrong) > 0 || w.mark != len(l) || len(w.handed) != len(l) || w.most > c.Window {
			t.Fatalf("seed %d: handed out too early, or again: %v; the mark %d of %d; %d at once, window %d", seed, w.wrong, w.mark, len(l), w.most, c.Window)
		}
		for _, a := range answers {
			if a.Code != api.OK || a.Mark < 0 || a.Mark > len(l) {
				t.Fatalf("seed %d: %+v", seed, a)
			}
		}
		most = max(most, w.most)
	}
	if most < 2 {
		t.Error("no two went side by side")
	}
}

// stopped: what waits in the queue, at most so many, of the one shard of a run whose owner has to wait itself, when all others have done what they can; then the run goes to its end.
func stopped(t *testing.T, c api.Config, l []api.Txn, calls []api.Call) []api.Req {
	var waiting []api.Req
	synctest.Test(t, func(t *testing.T) {
		r := newRun(c, l)
		hold := make(chan api.Resp)
		r.queues[0] <- request{api.Req{Kind: api.ReqGet, From: -99, Key: "a"}, hold}
		ended := started(func() { r.whole(calls) })
		synctest.Wait()
		var taken []request
		for range len(r.queues[0]) {
			q := <-r.queues[0]
			taken = append(taken, q)
			waiting = append(waiting, q.what)
		}
		<-hold
		for _, q := range taken {
			r.queues[0] <- q
		}
		<-ended
	})
	return waiting
}

// numbers: those of the transactions whose requests these are, and of who asks, rising.
func numbers(l []api.Req) (transactions, from []int) {
	for _, q := range l {
		transactions, from = append(transactions, q.Number), append(from, q.From)
	}
	slices.Sort(transactions)
	slices.Sort(from)
	return transactions, from
}

// upTo: from the number 1 on.
func upTo(n int) []int {
	l := make([]int, n)
	for i := range l {
		l[i] = i + 1
	}
	return l
}

// P0.4, P25.3: each lane holds a transaction, if the window has so many of which none waits for another one.
func TestLanesGoSideBySide(t *testing.T) {
	same := apart(40)
	for i := range same {
		same[i].Writes = []api.Write{put("a", "")}
	}
	for lanes := 1; lanes <= api.MaxLanes; lanes++ {
		for _, window := range []int{1, 2, 3, 15, 16, 64} {
			c := like(lanes, 1, window, api.MaxQueue)
			want := upTo(min(lanes, window))
			n, from := numbers(stopped(t, c, apart(40), nil))
			if !slices.Equal(n, want) || len(slices.Compact(from)) != len(want) || from[0] < 1 || from[len(want)-1] > lanes {
				t.Fatalf("%v: %v are under way, by %v", c, n, from)
			}
			if n, _ := numbers(stopped(t, c, same, nil)); !slices.Equal(n, upTo(1)) {
				t.Fatalf("%v, one key: %v are under way", c, n)
			}
			if n, _ := numbers(stopped(t, c, logT(), nil)); !slices.Equal(n, upTo(min(lanes, window, 2))) {
				t.Fatalf("%v, T: %v are under way", c, n)
			}
		}
	}
}

// P25.2: calls begin while transactions are under way; each has its own number.
func TestCallsGoBesideLanes(t *testing.T) {
	calls := []api.Call{{Kind: api.CallGet, Key: "a"}, {Kind: api.CallScan, End: "x"}, {Kind: api.CallCollect}, {Kind: api.CallGet, Key: "b"}}
	l := stopped(t, like(2, 1, 4, 8), logT(), calls)
	if _, from := numbers(l); len(l) != 6 || !slices.Equal(from[:4], []int{-4, -3, -2, -1}) {
		t.Fatalf("%+v", l)
	}
	kinds := []api.ReqKind{api.ReqGet, api.ReqScan, api.ReqCollect, api.ReqGet}
	for _, q := range l {
		if n := -q.From - 1; n >= 0 && (q.Kind != kinds[n] || q.Number != 0 || q.Key != calls[n].Key || q.End != calls[n].End) {
			t.Errorf("%+v asks %+v", calls[n], q)
		}
	}
}

// P25.3: no more requests wait than the queue holds.
func TestQueuesHaveABound(t *testing.T) {
	for queue := 1; queue <= api.MaxQueue; queue++ {
		synctest.Test(t, func(t *testing.T) {
			r := newRun(like(16, 2, 64, queue), apart(40))
			hold := make(chan api.Resp)
			for shard := range r.queues {
				r.queues[shard] <- request{api.Req{Kind: api.ReqGet, From: -99, Key: "a"}, hold}
			}
			calls := slices.Repeat([]api.Call{{Kind: api.CallScan}}, 32)
			ended := started(func() { r.whole(calls) })
			synctest.Wait()
			if len(r.queues[0]) != queue || cap(r.queues[0]) != queue {
				t.Errorf("%d wait in a queue of %d", len(r.queues[0]), queue)
			}
			<-hold
			<-hold
			<-ended
		})
	}
}
