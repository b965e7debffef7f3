package trace_test

import (
	"math"
	"slices"
	"strings"
	"testing"

	"towpath/api"
	"towpath/trace"
)

// put and drop: a write of a value, and one by which a key goes.
func put(key, val string) api.Write { return api.Write{Key: key, Val: val} }
func drop(key string) api.Write     { return api.Write{Key: key, Drop: true} }

// ws: writes of one transaction.
func ws(l ...api.Write) []api.Write { return l }

// numbered: a log of transactions with these writes.
func numbered(l ...[]api.Write) []api.Txn {
	var log []api.Txn
	for i, w := range l {
		log = append(log, api.Txn{Number: i + 1, Writes: w})
	}
	return log
}

// logT is the document's log.
func logT() []api.Txn {
	return numbered(ws(put("a", "1")), ws(put("b", "2")), ws(put("a", "3"), drop("b")))
}

// like: a configuration.
func like(lanes, shards, window, queue int) api.Config {
	return api.Config{Lanes: lanes, Shards: shards, Window: window, Queue: queue}
}

// one is the configuration of the chapter's examples.
func one() api.Config { return like(1, 1, 4, 1) }

// at: a checkpoint's mark, and what is beyond it.
func at(mark int, beyond ...int) api.Saved { return api.Saved{Mark: mark, Beyond: beyond} }

// The events, by what their rows name; Mark is 0.
func read(n int) api.Event { return api.Event{Kind: api.EvRead, Number: n} }
func skip(n int) api.Event { return api.Event{Kind: api.EvSkip, Number: n} }
func dispatch(n, waits int) api.Event {
	return api.Event{Kind: api.EvDispatch, Number: n, Count: waits}
}
func take(lane, n int) api.Event { return api.Event{Task: lane, Kind: api.EvTake, Number: n} }
func send(lane, n, shard int) api.Event {
	return api.Event{Task: lane, Kind: api.EvSend, Number: n, Shard: shard}
}
func done(lane, n int) api.Event { return api.Event{Task: lane, Kind: api.EvDone, Number: n} }
func serve(c api.Config, shard, n int) api.Event {
	return api.Event{Task: c.Lanes + 1 + shard, Kind: api.EvServe, Number: n, Shard: shard}
}
func pass(c api.Config, n, up int) api.Event {
	return api.Event{Task: c.Lanes + c.Shards + 1, Kind: api.EvGate, Number: n, Count: up}
}
func begin(call int) api.Event { return api.Event{Task: call, Kind: api.EvBegin, Number: call} }
func ask(call, shard int) api.Event {
	return api.Event{Task: call, Kind: api.EvAsk, Number: call, Shard: shard}
}
func write(call, left int) api.Event {
	return api.Event{Task: call, Kind: api.EvWrite, Number: call, Count: left}
}
func end(call int) api.Event { return api.Event{Task: call, Kind: api.EvEnd, Number: call} }

// marked: the events, with the marks that a gate's steps among them lead to from one on.
func marked(mark int, events ...api.Event) []api.Event {
	l := slices.Clone(events)
	for i := range l {
		if l[i].Kind == api.EvGate {
			mark += l[i].Count
		}
		l[i].Mark = mark
	}
	return l
}

// alone: all that becomes of a transaction of one write to the shard 0, by the lane 1, where it waits for none and is the mark's next one.
func alone(c api.Config, n int) []api.Event {
	return []api.Event{read(n), dispatch(n, 0), take(1, n), send(1, n, 0), serve(c, 0, n), done(1, n), pass(c, n, 1)}
}

// answers: is this what Check answers?
func answers(t testing.TB, c api.Config, log []api.Txn, from api.Saved, events []api.Event, place int, want api.Errno) {
	t.Helper()
	if n, e := trace.Check(c, log, from, events); n != place || e != want {
		t.Fatalf("Check(%+v, %v, %+v, %+v) = %d, %v, want %d, %v", c, log, from, events, n, e, place, want)
	}
}

// passes: do all events pass, and so do the first of them, however many?
func passes(t testing.TB, c api.Config, log []api.Txn, from api.Saved, events []api.Event) {
	t.Helper()
	for n := range len(events) + 1 {
		answers(t, c, log, from, events[:n], n, api.OK)
	}
}

// cannot: do the events pass, and none of these others can be next, whatever comes behind it?
func cannot(t testing.TB, c api.Config, log []api.Txn, from api.Saved, events []api.Event, others ...api.Event) {
	t.Helper()
	answers(t, c, log, from, events, len(events), api.OK)
	for _, e := range others {
		l := append(slices.Clone(events), e)
		answers(t, c, log, from, l, len(events), api.ErrTrace)
		answers(t, c, log, from, append(l, read(1), e, begin(-99)), len(events), api.ErrTrace)
	}
}

// P21.1: the chapter's rows.
func TestExamples(t *testing.T) {
	c, log := one(), logT()
	answers(t, c, log, at(0), nil, 0, api.OK)
	answers(t, api.Config{}, log, at(0), nil, 0, api.ErrConfig)
	answers(t, c, log, at(0), []api.Event{{Kind: api.EvRead, Number: 1}}, 1, api.OK)
	answers(t, c, log, at(0), []api.Event{{Kind: api.EvRead, Number: 2}}, 0, api.ErrTrace)
	answers(t, c, log, at(0), []api.Event{{Kind: api.EvRead, Number: 1, Mark: 1}}, 0, api.ErrTrace)
	answers(t, c, log, at(0), []api.Event{{Task: 1, Kind: api.EvTake, Number: 1}}, 0, api.ErrTrace)
	answers(t, c, log, at(0), []api.Event{
		{Kind: api.EvRead, Number: 1},
		{Kind: api.EvDispatch, Number: 1},
		{Task: 1, Kind: api.EvTake, Number: 1},
		{Task: 1, Kind: api.EvDone, Number: 1},
	}, 3, api.ErrTrace)
	answers(t, c, log, at(0), []api.Event{
		{Kind: api.EvRead, Number: 1},
		{Kind: api.EvDispatch, Number: 1},
		{Task: 1, Kind: api.EvTake, Number: 1},
		{Task: 1, Kind: api.EvSend, Number: 1},
		{Task: 2, Kind: api.EvServe, Number: 1},
		{Task: 1, Kind: api.EvDone, Number: 1},
		{Task: 3, Kind: api.EvGate, Number: 1, Count: 1, Mark: 1},
	}, 7, api.OK)
	answers(t, c, log, at(0), []api.Event{
		{Task: -1, Kind: api.EvBegin, Number: -1},
		{Task: -1, Kind: api.EvAsk, Number: -1},
		{Task: -1, Kind: api.EvEnd, Number: -1},
	}, 2, api.ErrTrace)
	answers(t, c, log, at(0), []api.Event{{Task: -2, Kind: api.EvBegin, Number: -2}}, 1, api.OK)
	answers(t, c, log, at(4), nil, 0, api.ErrArg)
	answers(t, c, log, at(0, 1), nil, 0, api.ErrArg)
}

// P21.1: the configurations that may not be, whatever else is wrong; the limits are allowed themselves.
func TestConfigurations(t *testing.T) {
	spoilt := numbered(ws(put("", "")))
	for _, c := range []api.Config{{}, like(0, 1, 4, 1), like(17, 1, 4, 1), like(1, 0, 4, 1), like(1, 17, 4, 1), like(1, 1, 0, 1), like(1, 1, 65, 1), like(1, 1, 4, 0), like(1, 1, 4, 17), like(-1, 1, 4, 1), like(math.MaxInt, math.MinInt, 4, 1)} {
		answers(t, c, logT(), at(0), nil, 0, api.ErrConfig)
		answers(t, c, logT(), at(0), []api.Event{read(1)}, 0, api.ErrConfig)
		answers(t, c, spoilt, at(-1, 5, 4), []api.Event{read(2)}, 0, api.ErrConfig)
	}
	for _, c := range []api.Config{like(1, 1, 1, 1), like(16, 16, 64, 16), like(16, 1, 1, 1), like(1, 16, 1, 1), like(1, 1, 64, 1), like(1, 1, 1, 16)} {
		shard := shardOf(c, "a")
		passes(t, c, logT(), at(0), marked(0, read(1), dispatch(1, 0), take(c.Lanes, 1), send(c.Lanes, 1, shard), serve(c, shard, 1), done(c.Lanes, 1), pass(c, 1, 1)))
	}
}

// P21.1: a log that may not be; it is looked at whole, whatever the events.
func TestLogsThatMayNotBe(t *testing.T) {
	long, many := strings.Repeat("k", api.MaxKey+1), make([]api.Write, api.MaxWrites+1)
	for i := range many {
		many[i] = put("a", "1")
	}
	spoilt := [][]api.Write{ws(put("", "x")), ws(put(long, "x")), ws(put("a", strings.Repeat("v", api.MaxVal+1))), ws(api.Write{Key: "a", Val: "x", Drop: true}), many}
	for _, w := range spoilt {
		for place := range 3 {
			log := logT()
			log[place].Writes = w
			answers(t, one(), log, at(0), nil, 0, api.ErrArg)
			answers(t, one(), log, at(0), []api.Event{read(1)}, 0, api.ErrArg)
			answers(t, one(), log, at(0), []api.Event{read(2)}, 0, api.ErrArg)
		}
	}
	for _, numbers := range [][]int{{0}, {2}, {-1}, {1, 1}, {1, 3}, {2, 1}, {1, 2, 4}, {math.MaxInt}, {math.MinInt}} {
		var log []api.Txn
		for _, n := range numbers {
			log = append(log, api.Txn{Number: n})
		}
		answers(t, one(), log, at(0), nil, 0, api.ErrArg)
	}
	log := make([]api.Txn, api.MaxLog+1)
	for i := range log {
		log[i].Number = i + 1
	}
	answers(t, one(), log, at(0), nil, 0, api.ErrArg)
	answers(t, one(), log[:api.MaxLog], at(0), nil, 0, api.OK)
}

// P21.1: what it cannot begin with.
func TestWhereItCannotBegin(t *testing.T) {
	events := [][]api.Event{nil, {read(1)}, {read(2)}}
	for _, l := range events {
		for _, from := range []api.Saved{
			at(-1), at(4), at(math.MinInt), at(math.MaxInt), at(-1, 2), at(math.MaxInt, math.MinInt), at(math.MaxInt-1, math.MaxInt),
			at(0, 1), at(0, 0), at(0, -1), at(0, 4), at(0, 2, 4), at(0, 3, 3), at(0, 3, 2), at(0, 2, 2), at(0, 2, 3, 3), at(0, math.MaxInt), at(0, math.MinInt), at(0, 2, math.MaxInt, 3),
			at(1, 1), at(1, 2), at(1, 2, 3), at(1, 4), at(1, 3, 4), at(2, 3), at(2, 4), at(3, 4), at(3, 5), at(3, 3),
		} {
			answers(t, one(), logT(), from, l, 0, api.ErrArg)
		}
	}
	for _, from := range []api.Saved{at(1), at(0, 2), at(0, 1), at(-1)} {
		answers(t, one(), nil, from, nil, 0, api.ErrArg)
	}
	for _, from := range []api.Saved{at(0), at(1), at(2), at(3), at(0, 2), at(0, 3), at(0, 2, 3), at(1, 3)} {
		answers(t, one(), logT(), from, nil, 0, api.OK)
	}
	answers(t, one(), nil, at(0), nil, 0, api.OK)
}

// P21.1: what the checkpoint holds is not looked at.
func TestHeldIsNotLookedAt(t *testing.T) {
	from := at(1, 3)
	from.Held = []api.Held{{Key: ""}, {Key: "b", Versions: []api.Version{{Number: -1, Val: "x", Drop: true}, {}}}, {Key: "a"}}
	passes(t, one(), logT(), from, marked(1, read(2), dispatch(2, 0), read(3), skip(3)))
}

// P21.1: the greatest marks and numbers beyond them.
func TestAtTheEndOfTheGreatestLog(t *testing.T) {
	log := make([]api.Txn, api.MaxLog)
	for i := range log {
		log[i] = api.Txn{Number: i + 1, Writes: ws(put("a", "1"))}
	}
	last := api.MaxLog
	cannot(t, one(), log, at(last), nil, read(last), read(last+1), marked(last, read(last+1))[0])
	answers(t, one(), log, at(last+1), nil, 0, api.ErrArg)
	answers(t, one(), log, at(last, last+2), nil, 0, api.ErrArg)
	answers(t, one(), log, at(last-1, last+1), nil, 0, api.ErrArg)
	answers(t, one(), log, at(last-1, last), nil, 0, api.ErrArg)
	passes(t, one(), log, at(last-1), marked(last-1, alone(one(), last)...))
	l := append(alone(one(), last-1), read(last), skip(last))
	l[6].Count = 2
	passes(t, one(), log, at(last-2, last), marked(last-2, l...))
}

// P21.1: no event of a task that there is not, or of no kind.
func TestTasksAndKindsThatAreNot(t *testing.T) {
	c := like(2, 3, 4, 1)
	for _, before := range [][]api.Event{nil, {read(1)}, {read(1), dispatch(1, 0), begin(-1)}} {
		for _, task := range []int{-1, -2, 0, 1, 2, 3, 5, 6, 7, 8, math.MinInt, math.MaxInt} {
			for _, kind := range []api.EventKind{api.EvNone, api.EvEnd + 1, 100, 255} {
				cannot(t, c, logT(), at(0), before, api.Event{Task: task, Kind: kind}, api.Event{Task: task, Kind: kind, Number: task}, api.Event{Task: task, Kind: kind, Number: 1})
			}
		}
		for kind := api.EvNone; kind <= api.EvEnd+1; kind++ {
			for _, task := range []int{7, 8, 16, 34, 1000, math.MaxInt, math.MinInt + 7} {
				for _, n := range []int{0, 1, 2, -1} {
					cannot(t, c, logT(), at(0), before, api.Event{Task: task, Kind: kind, Number: n})
				}
			}
		}
	}
	answers(t, c, logT(), at(0), []api.Event{{}}, 0, api.ErrTrace)
	answers(t, c, nil, at(0), []api.Event{{}}, 0, api.ErrTrace)
}

// spoiled: the event, with one of its fields another one.
func spoiled(e api.Event) []api.Event {
	var l []api.Event
	for _, by := range []int{-2, -1, 1, 2, math.MaxInt, math.MinInt} {
		for field := range 5 {
			x := e
			*[]*int{&x.Task, &x.Number, &x.Shard, &x.Count, &x.Mark}[field] += by
			l = append(l, x)
		}
	}
	for kind := range api.EvEnd + 2 {
		if x := e; kind != e.Kind {
			x.Kind = kind
			l = append(l, x)
		}
	}
	return l
}

// P21.1: each field of each event is what the table says.
func TestEachFieldOfEachEvent(t *testing.T) {
	c := like(1, 1, 4, 2)
	events := marked(0, slices.Concat(
		[]api.Event{read(1), dispatch(1, 0), read(2), dispatch(2, 0), read(3), dispatch(3, 2)},
		[]api.Event{take(1, 1), send(1, 1, 0), begin(-1), ask(-1, 0), serve(c, 0, 1), serve(c, 0, -1), done(1, 1), end(-1), pass(c, 1, 1)},
		[]api.Event{take(1, 2), send(1, 2, 0), serve(c, 0, 2), done(1, 2), pass(c, 2, 1)},
		[]api.Event{take(1, 3), send(1, 3, 0), send(1, 3, 0), serve(c, 0, 3), serve(c, 0, 3), done(1, 3), pass(c, 3, 1)},
	)...)
	passes(t, c, logT(), at(0), events)
	refused := 0
	for place, e := range events {
		for _, x := range spoiled(e) {
			if !canBeNext(c, logT(), at(0), events[:place], x) { // some are other tasks' events
				cannot(t, c, logT(), at(0), events[:place], x)
				refused++
			}
		}
	}
	if most := len(events) * len(spoiled(api.Event{})); refused < most-20 {
		t.Errorf("%d of %d were refused", refused, most)
	}
}

// P21.1: the dispatcher reads one at a time, to the log's end.
func TestReading(t *testing.T) {
	c, log := one(), logT()
	cannot(t, c, log, at(0), nil, read(0), read(2), read(-1), skip(1), dispatch(1, 0), dispatch(0, 0))
	cannot(t, c, log, at(0), []api.Event{read(1)}, read(1), read(2), skip(1), dispatch(2, 0), dispatch(1, 1), dispatch(1, -1))
	cannot(t, c, log, at(0), []api.Event{read(1), dispatch(1, 0)}, read(1), read(3), dispatch(1, 0), dispatch(2, 0), skip(1))
	cannot(t, c, log, at(0), []api.Event{read(1), dispatch(1, 0), read(2), dispatch(2, 0), read(3), dispatch(3, 2)}, read(4), read(3), read(1), dispatch(3, 2), dispatch(4, 0))
	cannot(t, c, nil, at(0), nil, read(1), read(0), dispatch(1, 0))
	cannot(t, c, log, at(3), nil, marked(3, read(4), read(1), read(3))...)
	for mark := range 3 {
		passes(t, c, log, at(mark), marked(mark, read(mark+1)))
		cannot(t, c, log, at(mark), nil, marked(mark, read(mark), read(mark+2))...)
	}
}

// P21.1, P21.3: none is dispatched above the mark by more than the window.
func TestTheWindow(t *testing.T) {
	log := numbered(make([][]api.Write, api.MaxWindow+3)...)
	for window := 1; window <= api.MaxWindow; window++ {
		c := like(1, 1, window, 1)
		var l []api.Event
		for n := 1; n <= window; n++ {
			l = append(l, read(n), dispatch(n, 0))
		}
		passes(t, c, log, at(0), l)
		l = append(l, read(window+1))
		cannot(t, c, log, at(0), l, dispatch(window+1, 0), skip(window+1), read(window+2))
		l = append(l, take(1, 1), done(1, 1))
		cannot(t, c, log, at(0), l, dispatch(window+1, 0))
		l = append(l, pass(c, 1, 1), dispatch(window+1, 0), read(window+2))
		passes(t, c, log, at(0), marked(0, l...))
		cannot(t, c, log, at(0), marked(0, l...), dispatch(window+2, 0), marked(1, dispatch(window+2, 0))[0])
	}
}

// P21.1: those that were beyond the mark from the beginning are skipped, and no others: not even one that is there since.
func TestSkipping(t *testing.T) {
	log := numbered(ws(put("a", "1")), ws(put("b", "1")), ws(put("c", "1")), ws(put("d", "1")))
	c := like(2, 1, 1, 1)
	from := at(0, 2, 4)
	l := []api.Event{read(1), dispatch(1, 0), read(2)}
	cannot(t, c, log, from, l, dispatch(2, 0), read(3), skip(1), skip(3), skip(4))
	cannot(t, c, log, from, l[:1], skip(1))
	l = append(l, skip(2), read(3))
	cannot(t, c, log, from, l, skip(3), dispatch(3, 0))
	passes(t, c, log, from, l)
	// Behind 1 the mark is 2: 3 is the next one.
	l = marked(0, append(l, take(2, 1), send(2, 1, 0), serve(c, 0, 1), done(2, 1), pass(c, 1, 2), dispatch(3, 0), read(4), skip(4), take(1, 3), send(1, 3, 0), serve(c, 0, 3), done(1, 3), pass(c, 3, 2))...)
	passes(t, c, log, from, l)
	cannot(t, c, log, from, l, marked(4, read(5), skip(4), take(1, 4), take(1, 2))...)
}

// P21.1: one may be at or below the mark before it is read: it is skipped all the same. And far above the window.
func TestSkippedAnywhere(t *testing.T) {
	c := like(1, 1, 1, 1)
	log := numbered(ws(put("a", "1")), nil, nil, nil, nil)
	l := append(alone(c, 1), read(2), skip(2), read(3), skip(3))
	l[6].Count = 3
	passes(t, c, log, at(0, 2, 3), marked(0, l...))
	cannot(t, c, log, at(0, 2, 3), marked(0, l[:8]...), marked(3, dispatch(2, 0), read(3))...)
	cannot(t, c, log, at(0, 2, 3), marked(0, l[:7]...), marked(3, read(4), skip(2))...)
	passes(t, c, log, at(0, 2, 3, 4, 5), []api.Event{read(1), dispatch(1, 0), read(2), skip(2), read(3), skip(3), read(4), skip(4), read(5), skip(5)})
}

// P21.1: the mark goes up over what was beyond it, and what came there.
func TestTheMark(t *testing.T) {
	c := like(3, 1, 8, 1)
	log := numbered(make([][]api.Write, 6)...)
	l := []api.Event{read(1), dispatch(1, 0), read(2), dispatch(2, 0), read(3), dispatch(3, 0), take(1, 1), take(2, 2), take(3, 3), done(3, 3), done(1, 1), done(2, 2)}
	from := at(0, 4, 6)
	passes(t, c, log, from, l)
	cannot(t, c, log, from, l, pass(c, 1, 1), pass(c, 2, 0), pass(c, 3, 1), marked(0, pass(c, 3, 1))[0], marked(3, pass(c, 3, 0))[0])
	l = append(l, pass(c, 3, 0))
	passes(t, c, log, from, l)
	cannot(t, c, log, from, l, pass(c, 3, 0), pass(c, 2, 0), pass(c, 1, 0), marked(0, pass(c, 1, 2))[0], pass(c, 1, 1))
	l = append(l, pass(c, 1, 1))
	passes(t, c, log, from, marked(0, l...))
	passes(t, c, log, from, marked(0, append(l, pass(c, 2, 3))...))
	cannot(t, c, log, from, marked(0, l...), marked(1, pass(c, 2, 1))[0], marked(1, pass(c, 2, 2))[0], marked(1, pass(c, 2, 4))[0], marked(1, pass(c, 2, 5))[0])
}

// P21.1: those that wait for none go to the line, the first one first: whoever takes one takes that.
func TestTheLine(t *testing.T) {
	c := like(3, 1, 8, 4)
	log := numbered(ws(put("a", "")), ws(put("b", "")), ws(put("a", "")), ws(put("c", "")), ws(put("a", ""), put("b", "")))
	l := []api.Event{read(1), dispatch(1, 0), read(2), dispatch(2, 0), read(3), dispatch(3, 1), read(4), dispatch(4, 0), read(5)}
	cannot(t, c, log, at(0), l, dispatch(5, 0), dispatch(5, 1), dispatch(5, 3))
	l = append(l, dispatch(5, 2))
	cannot(t, c, log, at(0), l, take(1, 2), take(1, 3), take(1, 4), take(1, 5), take(0, 1), take(4, 1))
	l = append(l, take(3, 1))
	cannot(t, c, log, at(0), l, take(3, 2), take(1, 1), take(2, 4), take(2, 3))
	l = append(l, take(1, 2), take(2, 4))
	cannot(t, c, log, at(0), l, take(1, 3), take(2, 3), take(3, 3))
	l = append(l, send(3, 1, 0), send(1, 2, 0), send(2, 4, 0), serve(c, 0, 1), done(3, 1))
	cannot(t, c, log, at(0), l, take(3, 3), take(3, 5)) // not ahead of the gate's step
	l = marked(0, append(l, pass(c, 1, 1))...)
	passes(t, c, log, at(0), l)
	cannot(t, c, log, at(0), l, marked(1, take(3, 5), take(1, 3))...)
	passes(t, c, log, at(0), append(l, marked(1, take(3, 3))...))
}

// P21.1: of those that a gate's step sets free the least comes first, behind all that were in the line.
func TestFreedRising(t *testing.T) {
	c := like(1, 1, 8, 1)
	log := numbered(ws(put("a", ""), put("b", "")), ws(put("a", "")), ws(put("b", "")), nil)
	l := []api.Event{read(1), dispatch(1, 0), read(2), dispatch(2, 1), read(3), dispatch(3, 1), read(4), dispatch(4, 0), take(1, 1), send(1, 1, 0), serve(c, 0, 1), send(1, 1, 0), serve(c, 0, 1), done(1, 1)}
	l = marked(0, append(l, pass(c, 1, 1), take(1, 4), done(1, 4), take(1, 2), send(1, 2, 0), serve(c, 0, 2), done(1, 2), take(1, 3))...)
	passes(t, c, log, at(0), l)
	cannot(t, c, log, at(0), l[:15], marked(1, take(1, 2), take(1, 3))...)
	cannot(t, c, log, at(0), l[:17], marked(1, take(1, 3), take(1, 4), take(1, 1))...)
	cannot(t, c, log, at(0), l[:21], marked(1, take(1, 2), take(1, 1))...)
}

// P21.1: who waits for whom: for the last writer of a key alone, if it is open; not for what was there from the beginning.
func TestWaiting(t *testing.T) {
	c := like(4, 1, 8, 1)
	log := numbered(ws(put("a", "")), ws(put("a", "")), ws(drop("a"), put("a", "")), ws(put("a", ""), put("b", ""), put("a", "")))
	l := []api.Event{read(1), dispatch(1, 0), read(2), dispatch(2, 1), read(3), dispatch(3, 1), read(4), dispatch(4, 1)}
	passes(t, c, log, at(0), l)
	cannot(t, c, log, at(0), l[:7], dispatch(4, 0), dispatch(4, 2), dispatch(4, 3))
	passes(t, c, log, at(0, 2), []api.Event{read(1), dispatch(1, 0), read(2), skip(2), read(3), dispatch(3, 1), read(4), dispatch(4, 1)})
	passes(t, c, log, at(0, 2, 3), []api.Event{read(1), dispatch(1, 0), read(2), skip(2), read(3), skip(3), read(4), dispatch(4, 1)})
	passes(t, c, log, at(1, 3), marked(1, read(2), dispatch(2, 0), read(3), skip(3), read(4), dispatch(4, 1)))
	passes(t, c, log, at(3), marked(3, read(4), dispatch(4, 0)))
	// What is there when a later one is dispatched is waited for no more.
	passes(t, c, log, at(0), marked(0, slices.Concat(alone(c, 1), alone(c, 2)[:6], []api.Event{read(3), dispatch(3, 1)})...))
	passes(t, c, log, at(0), marked(0, slices.Concat(alone(c, 1), alone(c, 2), []api.Event{read(3), dispatch(3, 0)})...))
}

// P21.1: a lane sends just the writes that count, in their order, each to its key's shard.
func TestTheWritesThatCount(t *testing.T) {
	c := like(1, 3, 4, 4)
	keys := [3]string{} // of each shard
	for _, key := range manyKeys() {
		keys[shardOf(c, key)] = key
	}
	x, y, z := keys[0], keys[1], keys[2]
	log := numbered(ws(put(x, "1"), put(y, "1"), drop(z), put(y, "2"), put(x, "2"), drop(x)))
	l := []api.Event{read(1), dispatch(1, 0), take(1, 1)}
	cannot(t, c, log, at(0), l, send(1, 1, 0), send(1, 1, 1), send(1, 1, 3), send(1, 1, -1), send(2, 1, 2), send(1, 2, 2), done(1, 1))
	l = append(l, send(1, 1, 2))
	cannot(t, c, log, at(0), l, send(1, 1, 0), send(1, 1, 2), done(1, 1))
	l = append(l, send(1, 1, 1))
	cannot(t, c, log, at(0), l, send(1, 1, 1), send(1, 1, 2), done(1, 1))
	l = append(l, send(1, 1, 0))
	cannot(t, c, log, at(0), l, send(1, 1, 0), send(1, 1, 1), send(1, 1, 2), done(1, 1))
	l = append(l, serve(c, 0, 1), serve(c, 2, 1))
	cannot(t, c, log, at(0), l, done(1, 1), serve(c, 0, 1), serve(c, 2, 1), send(1, 1, 0))
	l = append(l, serve(c, 1, 1))
	cannot(t, c, log, at(0), l, send(1, 1, 0), send(1, 1, 1), send(1, 1, 2), serve(c, 1, 1), pass(c, 1, 1), done(1, 2))
	passes(t, c, log, at(0), marked(0, append(l, done(1, 1), pass(c, 1, 1))...))
}

// P21.1: a transaction without writes is done at once; a lane is, only once.
func TestDone(t *testing.T) {
	c := like(2, 1, 4, 1)
	log := numbered(nil, nil)
	l := []api.Event{read(1), dispatch(1, 0)}
	cannot(t, c, log, at(0), l, done(1, 1), done(2, 1), done(1, 0), pass(c, 1, 1))
	l = append(l, take(1, 1))
	cannot(t, c, log, at(0), l, done(2, 1), done(1, 2), done(1, 0), send(1, 1, 0), take(1, 1), take(2, 1), marked(1, pass(c, 1, 1))[0])
	l = append(l, done(1, 1))
	cannot(t, c, log, at(0), l, done(1, 1), take(1, 1), marked(0, pass(c, 2, 1))[0])
	l = marked(0, append(l, pass(c, 1, 1))...)
	passes(t, c, log, at(0), l)
	cannot(t, c, log, at(0), l, pass(c, 1, 1), marked(1, pass(c, 1, 0))[0], marked(1, pass(c, 2, 0))[0], marked(1, done(1, 1))[0])
}

// P21.1: a queue has its bound, for lanes and calls together; and is served in its order.
func TestFullQueues(t *testing.T) {
	log := numbered(ws(put("a", "")), ws(put("b", "")), ws(put("c", "")))
	for queue := 1; queue <= api.MaxQueue; queue++ {
		c := like(3, 1, 4, queue)
		l := []api.Event{read(1), dispatch(1, 0), take(2, 1), read(2), dispatch(2, 0), take(1, 2), begin(-7), begin(-3)}
		full := []api.Event{send(2, 1, 0)}
		for len(full) < queue {
			full = append(full, ask([2]int{-7, -3}[len(full)%2], 0))
		}
		l = append(l, full...)
		passes(t, c, log, at(0), l)
		cannot(t, c, log, at(0), l, send(1, 2, 0), ask(-7, 0), ask(-3, 0), serve(c, 0, -7), serve(c, 0, -3), serve(c, 0, 2))
		l = append(l, serve(c, 0, 1), send(1, 2, 0))
		passes(t, c, log, at(0), l)
		cannot(t, c, log, at(0), l, ask(-7, 0), ask(-3, 0))
		for _, e := range append(full[1:], send(1, 2, 0)) {
			wrong := serve(c, 0, e.Number-1)
			cannot(t, c, log, at(0), l, wrong, done(1, 2))
			l = append(l, serve(c, 0, e.Number))
		}
		cannot(t, c, log, at(0), l, serve(c, 0, 1), serve(c, 0, 2), serve(c, 0, -7), serve(c, 0, 0))
		passes(t, c, log, at(0), append(l, done(1, 2), end(-7), done(2, 1), end(-3)))
	}
}

// P21.1: an empty queue, and an empty gate's line.
func TestNothingWaits(t *testing.T) {
	c := like(2, 2, 4, 1)
	for _, from := range []api.Saved{at(0), at(0, 2, 3), at(1, 3), at(3)} {
		m := from.Mark
		cannot(t, c, logT(), from, nil, marked(m, serve(c, 0, 0), serve(c, 0, 1), serve(c, 1, -1), serve(c, 1, m), serve(c, 1, 3), send(1, 0, 0), send(1, 1, 0), done(1, 0), done(1, 1), take(1, 0), take(2, 1), take(1, 3))...)
		for n := range 4 {
			for up := range 3 {
				e := pass(c, n, up)
				e.Mark = m + up
				cannot(t, c, logT(), from, nil, e)
			}
		}
	}
}

// P21.1: a call begins once, and is a number below 0, whichever.
func TestCallsBegin(t *testing.T) {
	c := one()
	for _, n := range []int{-1, -2, -33, -70000, math.MinInt, math.MinInt + 1} {
		cannot(t, c, logT(), at(0), nil, ask(n, 0), write(n, 0), end(n))
		passes(t, c, logT(), at(0), []api.Event{begin(n), end(n)})
		cannot(t, c, logT(), at(0), []api.Event{begin(n)}, begin(n))
		cannot(t, c, logT(), at(0), []api.Event{begin(n), end(n)}, begin(n), end(n), ask(n, 0), write(n, 0))
		cannot(t, c, logT(), at(0), []api.Event{begin(n), write(n, 4), end(n)}, begin(n), end(n), ask(n, 0), write(n, 3))
	}
	for _, n := range []int{0, 1, 2, 3, 4, 5, math.MaxInt} {
		cannot(t, c, logT(), at(0), nil, begin(n), ask(n, 0), write(n, 0), end(n))
	}
	for _, e := range []api.Event{begin(-1), ask(-1, 0), write(-1, 3), end(-1)} {
		other, lane := e, e
		other.Number, lane.Task = -2, 1
		cannot(t, c, logT(), at(0), []api.Event{begin(-1), begin(-2)}, other, lane)
	}
	passes(t, c, logT(), at(2), marked(2, begin(-4), end(-4), begin(-1)))
	cannot(t, c, logT(), at(2), nil, begin(-1), marked(1, begin(-1))[0], marked(3, begin(-1))[0])
}

// P21.1: a call asks as often as it likes, what it likes, and writes whenever all that it asked was served.
func TestCallsGoOn(t *testing.T) {
	c := like(1, 2, 4, 2)
	log := logT()
	cannot(t, c, log, at(0), []api.Event{begin(-1)}, ask(-1, -1), ask(-1, 2), ask(-1, math.MaxInt), ask(-1, math.MinInt), write(-1, -1), write(-1, math.MinInt))
	l := []api.Event{begin(-1), write(-1, 0), write(-1, 5), write(-1, math.MaxInt), ask(-1, 1)}
	cannot(t, c, log, at(0), l, write(-1, 0), write(-1, 1), end(-1), begin(-1), serve(c, 0, -1), serve(c, 1, 1))
	l = append(l, ask(-1, 1))
	cannot(t, c, log, at(0), l, ask(-1, 1), end(-1), write(-1, 2))
	l = append(l, ask(-1, 0), serve(c, 1, -1), serve(c, 0, -1))
	cannot(t, c, log, at(0), l, serve(c, 0, -1), end(-1), write(-1, 2))
	l = append(l, serve(c, 1, -1))
	cannot(t, c, log, at(0), l, serve(c, 1, -1), serve(c, 0, -1))
	passes(t, c, log, at(0), append(l, end(-1)))
	passes(t, c, log, at(0), append(l, write(-1, 2), ask(-1, 0), serve(c, 0, -1), write(-1, 7), end(-1)))
}

// P21.1: of calls just that is asked: more of them than a replica takes at one time, and two that write at one time.
func TestCallsOfWhichMoreIsNotAsked(t *testing.T) {
	c := like(1, 1, 4, 2)
	var l []api.Event
	for n := range 3 * api.MaxCalls {
		l = append(l, begin(-n-1))
	}
	l = append(l, write(-90, 2), write(-4, 1), write(-90, 1), ask(-5, 0), ask(-6, 0))
	cannot(t, c, logT(), at(0), l, end(-5), write(-6, 0), serve(c, 0, -6))
	l = append(l, write(-4, 9), end(-90), serve(c, 0, -5), end(-5))
	passes(t, c, logT(), at(0), l)
	cannot(t, c, logT(), at(0), l, end(-6), end(-90), end(-5))
}

// P21.1: a call changes nothing of the rest, and its number is none of a transaction.
func TestCallsAndLanesApart(t *testing.T) {
	c := like(1, 1, 4, 2)
	l := []api.Event{begin(-1), ask(-1, 0), read(1), dispatch(1, 0), take(1, 1), send(1, 1, 0)}
	cannot(t, c, logT(), at(0), l, serve(c, 0, 1), done(1, 1), end(-1))
	l = append(l, serve(c, 0, -1))
	cannot(t, c, logT(), at(0), l, serve(c, 0, -1), done(1, 1))
	passes(t, c, logT(), at(0), append(l, end(-1), serve(c, 0, 1), done(1, 1)))
}

// P21.2: whatever they are.
func TestMarks(t *testing.T) {
	if l := trace.Marks(nil); len(l) != 0 {
		t.Errorf("Marks(none) = %v", l)
	}
	want := []int{3, -1, 0, math.MaxInt, math.MinInt, 3, 3}
	var events []api.Event
	for i, m := range want {
		events = append(events, api.Event{Task: i, Kind: api.EventKind(i * 40), Number: -m, Shard: 9, Count: 8, Mark: m})
	}
	if l := trace.Marks(events); !slices.Equal(l, want) {
		t.Errorf("Marks = %v, want %v", l, want)
	}
	if l := trace.Marks(make([]api.Event, 100000)); len(l) != 100000 {
		t.Errorf("Marks of 100000: %d", len(l))
	}
}

// R4: what is handed in is not changed, its spare room neither; what is answered is new.
func TestWhatIsHandedInStays(t *testing.T) {
	c := like(2, 1, 4, 2)
	log := logT()
	writes := append(make([]api.Write, 0, 8), log[2].Writes...)
	log[2].Writes = writes
	log = append(make([]api.Txn, 0, 8), log...)
	beyond := append(make([]int, 0, 8), 3)
	events := append(make([]api.Event, 0, 20), marked(1, read(2), dispatch(2, 0), read(3), skip(3), take(2, 2), begin(-1), ask(-1, 0), send(2, 2, 0), serve(c, 0, -1), serve(c, 0, 2), done(2, 2), end(-1), pass(c, 2, 2), read(4))...)
	for range 2 {
		answers(t, c, log, at(1, beyond...), events, 13, api.ErrTrace)
		if n, e := trace.Check(c, log, api.Saved{Mark: 1, Beyond: beyond}, events); n != 13 || e != api.ErrTrace {
			t.Errorf("asked again: %d, %v", n, e)
		}
	}
	zero := func(all bool) {
		if !all {
			t.Error("spare room was changed")
		}
	}
	zero(slices.Equal(beyond[:8], []int{3, 0, 0, 0, 0, 0, 0, 0}))
	zero(slices.Equal(events[14:20], make([]api.Event, 6)))
	zero(slices.Equal(writes[:8], append(ws(put("a", "3"), drop("b")), make([]api.Write, 6)...)))
	for _, x := range log[3:8] {
		zero(x.Number == 0 && x.Writes == nil)
	}
	if events[13] != marked(3, read(4))[0] || log[2].Number != 3 {
		t.Error("what was handed in was changed")
	}
	l, again := trace.Marks(events), trace.Marks(events)
	l = l[:cap(l)]
	for i := range l {
		l[i] = 99
	}
	if events[0].Mark != 1 || again[0] != 1 || again[12] != 3 {
		t.Errorf("answers share memory: %v", again)
	}
}

// R4: empty and nil are the same.
func TestEmptyAndNil(t *testing.T) {
	answers(t, one(), []api.Txn{}, api.Saved{Beyond: []int{}, Held: []api.Held{}}, []api.Event{}, 0, api.OK)
	answers(t, one(), nil, api.Saved{}, nil, 0, api.OK)
	log := []api.Txn{{Number: 1, Writes: []api.Write{}}}
	passes(t, one(), log, api.Saved{Beyond: []int{}}, marked(0, read(1), dispatch(1, 0), take(1, 1), done(1, 1), pass(one(), 1, 1)))
	if l := trace.Marks([]api.Event{}); len(l) != 0 {
		t.Errorf("Marks(none) = %v", l)
	}
}
