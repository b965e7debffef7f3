package replica_test

import (
	"fmt"
	"math"
	"slices"
	"strings"
	"testing"

	"towpath/api"
	"towpath/disk"
	"towpath/logfile"
	"towpath/replica"
	"towpath/slots"
)

// put and drop: a write of a value, and one by which a key goes.
func put(key, val string) api.Write { return api.Write{Key: key, Val: val} }
func drop(key string) api.Write     { return api.Write{Key: key, Drop: true} }

// set and gone: a version with a value, and one by which the key goes.
func set(number int, val string) api.Version { return api.Version{Number: number, Val: val} }
func gone(number int) api.Version            { return api.Version{Number: number, Drop: true} }

// has: a key with these versions.
func has(key string, l ...api.Version) api.Held { return api.Held{Key: key, Versions: l} }

// numbered: a log of transactions with these writes.
func numbered(l ...[]api.Write) []api.Txn {
	var log []api.Txn
	for i, w := range l {
		log = append(log, api.Txn{Number: i + 1, Writes: w})
	}
	return log
}

// ws: writes of one transaction.
func ws(l ...api.Write) []api.Write { return l }

// logT is the document's log.
func logT() []api.Txn {
	return numbered(ws(put("a", "1")), ws(put("b", "2")), ws(put("a", "3"), drop("b")))
}

// like: a configuration.
func like(lanes, shards, window, queue int) api.Config {
	return api.Config{Lanes: lanes, Shards: shards, Window: window, Queue: queue}
}

// one is the configuration of the chapter's examples.
func one() api.Config { return like(1, 1, 4, 1) }

// The calls.
func get(key string) api.Call       { return api.Call{Kind: api.CallGet, Key: key} }
func scan(key, end string) api.Call { return api.Call{Kind: api.CallScan, Key: key, End: end} }
func collect() api.Call             { return api.Call{Kind: api.CallCollect} }
func save() api.Call                { return api.Call{Kind: api.CallSave} }

// diskOf: of a capacity.
func diskOf(t testing.TB, capacity int) *disk.Disk {
	t.Helper()
	d, e := disk.New(capacity)
	if e != api.OK {
		t.Fatalf("disk.New(%d) = %v", capacity, e)
	}
	return d
}

// sourceOf: of a log.
func sourceOf(t testing.TB, log []api.Txn) *logfile.Source {
	t.Helper()
	s, e := logfile.New(log)
	if e != api.OK {
		t.Fatalf("logfile.New = %v", e)
	}
	return s
}

// saved: a disk with this checkpoint alone.
func saved(t testing.TB, s api.Saved) *disk.Disk {
	t.Helper()
	d := diskOf(t, 4096)
	x, e := slots.New(d, s)
	if e != api.OK {
		t.Fatalf("slots.New(%+v) = %v", s, e)
	}
	for x.Left() > 0 {
		x.Step()
	}
	return d
}

// made: a replica of a log, over a disk.
func made(t testing.TB, c api.Config, log []api.Txn, d *disk.Disk) *replica.Replica {
	t.Helper()
	r, e := replica.New(c, sourceOf(t, log), d)
	if e != api.OK || r == nil {
		t.Fatalf("New(%+v) = %v, %v", c, r, e)
	}
	return r
}

// fed: one that is fed all of its log, over a disk of 4096 bytes.
func fed(t testing.TB, c api.Config, log []api.Txn) *replica.Replica {
	t.Helper()
	r := made(t, c, log, diskOf(t, 4096))
	is(t, "Feed", r.Feed(len(log)), api.OK)
	return r
}

// is: was this answered?
func is(t testing.TB, call string, got, want api.Errno) {
	t.Helper()
	if got != want {
		t.Fatalf("%s = %v, want %v", call, got, want)
	}
}

// readyIs: can just these tasks do something?
func readyIs(t testing.TB, r *replica.Replica, want ...int) {
	t.Helper()
	if l := r.Ready(); !slices.Equal(l, want) {
		t.Fatalf("Ready = %v, want %v", l, want)
	}
}

// steps: are these the events of the steps of their tasks?
func steps(t testing.TB, r *replica.Replica, l ...api.Event) {
	t.Helper()
	for i, want := range l {
		if got, e := r.Step(want.Task); got != want || e != api.OK {
			t.Fatalf("step %d, of %d: %+v, %v, want %+v", i, want.Task, got, e, want)
		}
	}
}

// step: of tasks, one behind the other, whatever they do.
func step(t testing.TB, r *replica.Replica, tasks ...int) {
	t.Helper()
	for i, n := range tasks {
		if _, e := r.Step(n); e != api.OK {
			t.Fatalf("step %d, of %d: %v", i, n, e)
		}
	}
}

// noStep: does the task's step answer this error, and no event?
func noStep(t testing.TB, r *replica.Replica, task int, want api.Errno) {
	t.Helper()
	if got, e := r.Step(task); got != (api.Event{}) || e != want {
		t.Fatalf("Step(%d) = %+v, %v, want %v", task, got, e, want)
	}
}

// noPick: likewise.
func noPick(t testing.TB, r *replica.Replica, want api.Errno) {
	t.Helper()
	if got, e := r.Pick(0); got != (api.Event{}) || e != want {
		t.Fatalf("Pick(0) = %+v, %v, want %v", got, e, want)
	}
}

// called: is the call taken, with this number?
func called(t testing.TB, r *replica.Replica, x api.Call, want int) {
	t.Helper()
	if n, e := r.Call(x); n != want || e != api.OK {
		t.Fatalf("Call(%+v) = %d, %v, want %d", x, n, e, want)
	}
}

// noCall: is it refused with this?
func noCall(t testing.TB, r *replica.Replica, x api.Call, want api.Errno) {
	t.Helper()
	if n, e := r.Call(x); n != 0 || e != want {
		t.Fatalf("Call(%+v) = %d, %v, want %v", x, n, e, want)
	}
}

// sameAnswer: none and nil are the same.
func sameAnswer(a, b api.Answer) bool {
	return a.Code == b.Code && a.Mark == b.Mark && a.OK == b.OK && a.Count == b.Count && slices.Equal(a.Entries, b.Entries)
}

// sameHeld: likewise.
func sameHeld(a, b []api.Held) bool {
	return slices.EqualFunc(a, b, func(x, y api.Held) bool { return x.Key == y.Key && slices.Equal(x.Versions, y.Versions) })
}

// answerIs: has the call ended, with this answer?
func answerIs(t testing.TB, r *replica.Replica, call int, want api.Answer) {
	t.Helper()
	if a, ok := r.Answer(call); !ok || !sameAnswer(a, want) {
		t.Fatalf("Answer(%d) = %+v, %v, want %+v", call, a, ok, want)
	}
}

// noAnswer: has it not?
func noAnswer(t testing.TB, r *replica.Replica, call int) {
	t.Helper()
	if a, ok := r.Answer(call); ok || !sameAnswer(a, api.Answer{}) {
		t.Fatalf("Answer(%d) = %+v, %v, want none", call, a, ok)
	}
}

// all: Pick(0) until no task can do anything; how many there were.
func all(t testing.TB, r *replica.Replica) int {
	t.Helper()
	for n := range 1 << 20 { // more than any test here takes
		switch _, e := r.Pick(0); e {
		case api.OK:
		case api.ErrIdle, api.ErrCut:
			return n
		default:
			t.Fatalf("Pick(0) = %v", e)
		}
	}
	t.Fatal("it does not end")
	return 0
}

// entries: a key and its value, by turns.
func entries(l ...string) []api.Entry {
	var e []api.Entry
	for i := 0; i < len(l); i += 2 {
		e = append(e, api.Entry{Key: l[i], Val: l[i+1]})
	}
	return e
}

// storeIs: a key and its value, by turns.
func storeIs(t testing.TB, r *replica.Replica, want ...string) {
	t.Helper()
	if l := r.Store(); !slices.Equal(l, entries(want...)) {
		t.Fatalf("Store = %v, want %v", l, entries(want...))
	}
}

// versionsAre: all that the shards have.
func versionsAre(t testing.TB, r *replica.Replica, want ...api.Held) {
	t.Helper()
	if l := r.Versions(); !sameHeld(l, want) {
		t.Fatalf("Versions = %v, want %v", l, want)
	}
}

// heldIs: the transactions that lanes hold.
func heldIs(t testing.TB, r *replica.Replica, want ...int) {
	t.Helper()
	if l := r.Held(); !slices.Equal(l, want) {
		t.Fatalf("Held = %v, want %v", l, want)
	}
}

// markIs: the mark.
func markIs(t testing.TB, r *replica.Replica, want int) {
	t.Helper()
	if m := r.Mark(); m != want {
		t.Fatalf("Mark = %d, want %d", m, want)
	}
}

// overIs: is it over?
func overIs(t testing.TB, r *replica.Replica, want bool) {
	t.Helper()
	if r.Over() != want {
		t.Fatalf("Over = %v, want %v", !want, want)
	}
}

// P20.1 to P20.10: the chapter's rows.
func TestExamples(t *testing.T) {
	d := diskOf(t, 4096)
	s := sourceOf(t, logT())
	r, e := replica.New(one(), s, d)
	is(t, "New", e, api.OK)
	readyIs(t, r)
	noPick(t, r, api.ErrIdle)
	is(t, "Feed(4)", r.Feed(4), api.ErrArg)
	is(t, "Feed(3)", r.Feed(3), api.OK)
	readyIs(t, r, 0)
	noStep(t, r, 1, api.ErrBusy)
	noStep(t, r, 4, api.ErrArg)
	noStep(t, r, -1, api.ErrArg)
	steps(t, r, api.Event{Kind: api.EvRead, Number: 1}, api.Event{Kind: api.EvDispatch, Number: 1})
	readyIs(t, r, 0, 1)
	steps(t, r, api.Event{Task: 1, Kind: api.EvTake, Number: 1}, api.Event{Task: 1, Kind: api.EvSend, Number: 1})
	heldIs(t, r, 1)
	markIs(t, r, 0)
	steps(t, r,
		api.Event{Task: 2, Kind: api.EvServe, Number: 1},
		api.Event{Task: 1, Kind: api.EvDone, Number: 1},
		api.Event{Task: 3, Kind: api.EvGate, Number: 1, Count: 1, Mark: 1})
	markIs(t, r, 1)
	if n := all(t, r); n != 16 {
		t.Fatalf("%d more steps, want 16", n)
	}
	storeIs(t, r, "a", "3")
	overIs(t, r, true)
	called(t, r, get("a"), -1)
	steps(t, r, api.Event{Task: -1, Kind: api.EvBegin, Number: -1, Mark: 3}, api.Event{Task: -1, Kind: api.EvAsk, Number: -1, Mark: 3})
	noStep(t, r, -1, api.ErrBusy)
	steps(t, r, api.Event{Task: 2, Kind: api.EvServe, Number: -1, Mark: 3})
	noAnswer(t, r, -1)
	steps(t, r, api.Event{Task: -1, Kind: api.EvEnd, Number: -1, Mark: 3})
	answerIs(t, r, -1, api.Answer{Mark: 3, OK: true, Entries: entries("a", "3")})
	called(t, r, save(), -2)
	all(t, r)
	noPick(t, r, api.ErrIdle)
	answerIs(t, r, -2, api.Answer{Mark: 3, OK: true})
	r, e = replica.New(one(), s, d)
	is(t, "New", e, api.OK)
	markIs(t, r, 3)
	storeIs(t, r, "a", "3")
	is(t, "Feed(3)", r.Feed(3), api.OK)
	readyIs(t, r)
	r.Close()
	is(t, "Feed(3)", r.Feed(3), api.ErrStopped)
	noCall(t, r, collect(), api.ErrStopped)
	overIs(t, r, true)
}

// noNew: does New answer this error, and no replica?
func noNew(t testing.TB, c api.Config, s *logfile.Source, d *disk.Disk, want api.Errno) {
	t.Helper()
	if r, e := replica.New(c, s, d); r != nil || e != want {
		t.Fatalf("New(%+v) = %v, %v, want %v", c, r, e, want)
	}
}

// P20.1, R2, R3: ErrNil ahead of ErrConfig, that ahead of ErrOrder.
func TestNewRefuses(t *testing.T) {
	s := sourceOf(t, logT())
	high := saved(t, api.Saved{Mark: 4})
	for _, c := range []api.Config{{}, one()} {
		noNew(t, c, nil, nil, api.ErrNil)
		noNew(t, c, nil, high, api.ErrNil)
		noNew(t, c, &logfile.Source{}, high, api.ErrNil)
		noNew(t, c, s, nil, api.ErrNil)
		noNew(t, c, s, &disk.Disk{}, api.ErrNil)
	}
	for _, bad := range []api.Config{{}, like(0, 1, 4, 1), like(17, 1, 4, 1), like(1, 0, 4, 1), like(1, 17, 4, 1), like(1, 1, 0, 1), like(1, 1, 65, 1), like(1, 1, 4, 0), like(1, 1, 4, 17), like(-1, 1, 4, 1), like(math.MaxInt, math.MinInt, 4, 1)} {
		noNew(t, bad, s, high, api.ErrConfig)
		noNew(t, bad, s, diskOf(t, 0), api.ErrConfig)
	}
	noNew(t, one(), s, high, api.ErrOrder)
	noNew(t, one(), s, saved(t, api.Saved{Mark: 1, Beyond: []int{3, 4}}), api.ErrOrder)
	noNew(t, one(), sourceOf(t, nil), saved(t, api.Saved{Mark: 1}), api.ErrOrder)
	if l := s.Asked(); len(l) != 0 {
		t.Errorf("refused, and asked for %v", l)
	}
}

// P20.1: the limits are allowed themselves.
func TestNewAtTheLimits(t *testing.T) {
	for _, c := range []api.Config{like(1, 1, 1, 1), like(16, 16, 64, 16), like(16, 1, 1, 1), like(1, 16, 1, 1), like(1, 1, 64, 1), like(1, 1, 1, 16)} {
		r := fed(t, c, logT())
		noStep(t, r, c.Lanes+c.Shards+1, api.ErrBusy)
		noStep(t, r, c.Lanes+c.Shards+2, api.ErrArg)
		if n := all(t, r); n != 23 {
			t.Errorf("%+v: %d steps, want 23", c, n)
		}
		storeIs(t, r, "a", "3")
	}
}

// P20.1: without a checkpoint; nothing is asked of the source, nothing written, and a log may be empty.
func TestNewOfNothing(t *testing.T) {
	s, d := sourceOf(t, nil), diskOf(t, 0)
	r, e := replica.New(one(), s, d)
	is(t, "New", e, api.OK)
	markIs(t, r, 0)
	storeIs(t, r)
	versionsAre(t, r)
	heldIs(t, r)
	readyIs(t, r)
	overIs(t, r, true)
	is(t, "Feed(0)", r.Feed(0), api.OK)
	is(t, "Feed(1)", r.Feed(1), api.ErrArg)
	if len(s.Asked()) != 0 || d.Writes() != 0 {
		t.Error("the source was asked, or the disk written")
	}
}

// P20.1: the newest checkpoint's mark, what is beyond it, and its keys, in their shards; Fed is the mark.
func TestNewFromACheckpoint(t *testing.T) {
	log := numbered(ws(put("a", "1")), ws(put("b", "2")), ws(put("c", "3")), ws(put("d", "4")), ws(drop("a")), ws(put("d", "6")))
	d := saved(t, api.Saved{Mark: 2, Beyond: []int{4, 5}, Held: []api.Held{has("a", set(1, "1"), gone(5)), has("b", set(2, "2")), has("d", set(4, "4"))}})
	for _, c := range []api.Config{one(), like(2, 3, 1, 2), like(3, 16, 64, 1)} {
		s := sourceOf(t, log)
		r, e := replica.New(c, s, d)
		is(t, "New", e, api.OK)
		markIs(t, r, 2)
		storeIs(t, r, "a", "1", "b", "2")
		versionsAre(t, r, has("a", set(1, "1"), gone(5)), has("b", set(2, "2")), has("d", set(4, "4")))
		overIs(t, r, true)
		is(t, "Feed(1)", r.Feed(1), api.ErrArg)
		readyIs(t, r)
		is(t, "Feed(6)", r.Feed(6), api.OK)
		// The records 3 and 6 have a write each; 4 and 5 are read, and skipped.
		if n := all(t, r); n != 7+2+2+7 {
			t.Errorf("%+v: %d steps", c, n)
		}
		markIs(t, r, 6)
		storeIs(t, r, "b", "2", "c", "3", "d", "6")
		if l := s.Asked(); !slices.Equal(l, []int{3, 4, 5, 6}) {
			t.Errorf("%+v: asked for %v", c, l)
		}
	}
}

// P20.1: a checkpoint at the source's last one, or with that beyond it, is not too high.
func TestNewAtTheLast(t *testing.T) {
	r := made(t, one(), logT(), saved(t, api.Saved{Mark: 3}))
	markIs(t, r, 3)
	is(t, "Feed(3)", r.Feed(3), api.OK)
	readyIs(t, r)
	r = made(t, one(), logT(), saved(t, api.Saved{Mark: 1, Beyond: []int{3}}))
	is(t, "Feed(3)", r.Feed(3), api.OK)
	all(t, r)
	markIs(t, r, 3)
}

// P20.1: of a dead disk too, for it can be read.
func TestNewOverADeadDisk(t *testing.T) {
	d := saved(t, api.Saved{Mark: 2, Held: []api.Held{has("a", set(1, "1"))}})
	d.Cut(0)
	is(t, "Clear", d.Clear(1), api.ErrCut)
	r := made(t, one(), logT(), d)
	markIs(t, r, 2)
	storeIs(t, r, "a", "1")
	is(t, "Feed", r.Feed(3), api.OK)
	all(t, r)
	markIs(t, r, 3)
	called(t, r, save(), -1)
	all(t, r)
	answerIs(t, r, -1, api.Answer{Code: api.ErrCut, Mark: 3})
}

// P20.2: up to the source's last one, never down.
func TestFeed(t *testing.T) {
	r := made(t, one(), logT(), diskOf(t, 0))
	for _, row := range []struct {
		last int
		want api.Errno
	}{{-1, api.ErrArg}, {0, api.OK}, {4, api.ErrArg}, {2, api.OK}, {1, api.ErrArg}, {2, api.OK}, {math.MinInt, api.ErrArg}, {math.MaxInt, api.ErrArg}, {3, api.OK}, {2, api.ErrArg}, {3, api.OK}, {4, api.ErrArg}} {
		is(t, fmt.Sprintf("Feed(%d)", row.last), r.Feed(row.last), row.want)
	}
}

// P20.2: what is fed is read, and no more.
func TestFedIsRead(t *testing.T) {
	s := sourceOf(t, logT())
	r, _ := replica.New(one(), s, diskOf(t, 0))
	for n := range 4 {
		is(t, "Feed", r.Feed(n), api.OK)
		overIs(t, r, n == 0)
		all(t, r)
		markIs(t, r, n)
		overIs(t, r, true)
		if l := s.Asked(); !slices.Equal(l, []int{1, 2, 3}[:n]) {
			t.Errorf("fed %d: asked for %v", n, l)
		}
	}
}

// P20.3: numbers fall by one, of those alone that are taken.
func TestCallNumbers(t *testing.T) {
	r := made(t, one(), logT(), diskOf(t, 0))
	called(t, r, get("a"), -1)
	noCall(t, r, api.Call{}, api.ErrArg)
	called(t, r, scan("", ""), -2)
	all(t, r)
	called(t, r, collect(), -3)
	called(t, r, save(), -4)
	readyIs(t, r, -3, -4)
}

// P20.3: calls that may not be.
func TestCallsThatMayNotBe(t *testing.T) {
	r := made(t, one(), logT(), diskOf(t, 0))
	long := strings.Repeat("k", api.MaxKey+1)
	for _, x := range []api.Call{{}, {Kind: api.CallSave + 1}, {Kind: 255}, get(""), get(long), {Kind: api.CallGet, Key: "a", End: "b"}, scan(long, ""), scan("", long), {Kind: api.CallCollect, Key: "a"}, {Kind: api.CallCollect, End: "a"}, {Kind: api.CallSave, Key: "a"}, {Kind: api.CallSave, End: "a"}, {Key: "a"}} {
		noCall(t, r, x, api.ErrArg)
	}
	readyIs(t, r)
	overIs(t, r, true)
	for i, x := range []api.Call{get(long[1:]), get("\x00"), scan(long[1:], long[1:]), scan("b", "a"), scan("a", ""), scan("", "a")} {
		called(t, r, x, -i-1)
	}
}

// P20.3: MaxCalls that have not ended, begun or not; when one has ended there is room again.
func TestCallsAreFull(t *testing.T) {
	r := made(t, one(), logT(), diskOf(t, 0))
	for n := range api.MaxCalls {
		called(t, r, get("a"), -n-1)
	}
	noCall(t, r, get("a"), api.ErrFull)
	noCall(t, r, api.Call{}, api.ErrArg)
	step(t, r, -7, -7, 2)
	noCall(t, r, get("a"), api.ErrFull)
	step(t, r, -7)
	called(t, r, get("a"), -33)
	noCall(t, r, get("a"), api.ErrFull)
	noStep(t, r, -7, api.ErrBusy)
	r.Close()
	noCall(t, r, get("a"), api.ErrStopped)
	noCall(t, r, api.Call{}, api.ErrStopped)
	all(t, r)
	overIs(t, r, true)
}

// P20.4: the order of tasks, with all kinds of them ready at once.
func TestReadyInOrder(t *testing.T) {
	log := numbered(ws(put("a", "1")), ws(put("b", "2")), nil, ws(put("c", "3")), nil)
	r := fed(t, like(3, 2, 5, 2), log)
	step(t, r, 0, 0, 0, 0, 0, 0, 0, 0) // four are in the line
	step(t, r, 1, 2, 3)
	step(t, r, 1, 2, 3) // a and b are sent, 3 is done
	for n := range 11 {
		called(t, r, scan("", ""), -n-1)
	}
	readyIs(t, r, 0, 3, 4, 5, 6, -1, -2, -3, -4, -5, -6, -7, -8, -9, -10, -11)
	step(t, r, -2, -2)
	readyIs(t, r, 0, 3, 4, 5, 6, -1, -2, -3, -4, -5, -6, -7, -8, -9, -10, -11)
	step(t, r, 4, 4, -2, 5, 5, -2)
	readyIs(t, r, 0, 1, 2, 3, 6, -1, -3, -4, -5, -6, -7, -8, -9, -10, -11)
}

// P20.5: the tasks that there are.
func TestStepRefuses(t *testing.T) {
	r := made(t, like(2, 3, 4, 1), logT(), diskOf(t, 0))
	for n := range 7 {
		noStep(t, r, n, api.ErrBusy)
	}
	for _, n := range []int{7, 8, 100, math.MaxInt, -1, -2, math.MinInt} {
		noStep(t, r, n, api.ErrArg)
	}
	called(t, r, get("a"), -1)
	noStep(t, r, -2, api.ErrArg)
	all(t, r)
	noStep(t, r, -1, api.ErrBusy)
	noStep(t, r, -2, api.ErrArg)
	noStep(t, r, math.MinInt, api.ErrArg)
}

// P20.6: pick modulo how many there are, of any pick.
func TestPick(t *testing.T) {
	for pick, want := range map[int]int{0: -1, 1: -2, 2: -3, 3: -1, 4: -2, -1: -3, -2: -2, -3: -1, -4: -3, math.MaxInt: -1 - math.MaxInt%3, math.MinInt: -1 - (math.MinInt%3+3)%3} {
		r := made(t, one(), logT(), diskOf(t, 0))
		for n := range 3 {
			called(t, r, get("a"), -n-1)
		}
		if got, e := r.Pick(pick); got != (api.Event{Task: want, Kind: api.EvBegin, Number: want}) || e != api.OK {
			t.Errorf("Pick(%d) = %+v, %v, want the task %d", pick, got, e, want)
		}
	}
}

// DOC.md's table: the line is taken from in the order in which transactions came to it, freed ones rising.
func TestTheLine(t *testing.T) {
	log := numbered(ws(put("a", "1")), ws(put("b", "2")), ws(put("b", "3")), ws(put("a", "4")), ws(put("c", "5")), ws(put("a", "6"), put("c", "6")))
	r := fed(t, like(1, 1, 6, 1), log)
	waits := []int{0, 0, 1, 1, 0, 2}
	for i, n := range waits {
		steps(t, r, api.Event{Kind: api.EvRead, Number: i + 1}, api.Event{Kind: api.EvDispatch, Number: i + 1, Count: n})
	}
	var order []int
	for {
		e, code := r.Pick(0)
		if code != api.OK {
			break
		}
		if e.Kind == api.EvTake {
			order = append(order, e.Number)
		}
	}
	// 1, 2 and 5 went there first; 4 came with the end of 1, 3 with that of 2; and 6 waited for 4 and 5.
	if !slices.Equal(order, []int{1, 2, 5, 4, 3, 6}) {
		t.Errorf("taken: %v", order)
	}
	storeIs(t, r, "a", "6", "b", "3", "c", "6")
}

// DOC.md's table: one gate step frees several, rising.
func TestFreedRising(t *testing.T) {
	log := numbered(ws(put("a", ""), put("b", ""), put("c", "")), ws(put("c", "2")), ws(put("b", "3")), ws(put("a", "4")))
	r := fed(t, like(4, 1, 4, 1), log)
	step(t, r, 0, 0, 0, 0, 0, 0, 0, 0)
	readyIs(t, r, 1, 2, 3, 4)
	step(t, r, 4, 4, 5, 4, 5, 4, 5, 4)
	readyIs(t, r, 6)
	steps(t, r, api.Event{Task: 6, Kind: api.EvGate, Number: 1, Count: 1, Mark: 1})
	steps(t, r, api.Event{Task: 3, Kind: api.EvTake, Number: 2, Mark: 1}, api.Event{Task: 1, Kind: api.EvTake, Number: 3, Mark: 1}, api.Event{Task: 4, Kind: api.EvTake, Number: 4, Mark: 1})
	heldIs(t, r, 2, 3, 4)
}

// DOC.md's table: the mark goes up as far as all is there.
func TestTheMark(t *testing.T) {
	log := numbered(nil, nil, nil, nil, nil)
	r := fed(t, like(5, 1, 5, 1), log)
	step(t, r, 0, 0, 0, 0, 0, 0, 0, 0, 0, 0)
	step(t, r, 1, 2, 3, 4, 5)
	step(t, r, 3, 2, 5, 1, 4)
	heldIs(t, r)
	steps(t, r,
		api.Event{Task: 7, Kind: api.EvGate, Number: 3},
		api.Event{Task: 7, Kind: api.EvGate, Number: 2},
		api.Event{Task: 7, Kind: api.EvGate, Number: 5},
		api.Event{Task: 7, Kind: api.EvGate, Number: 1, Count: 3, Mark: 3},
		api.Event{Task: 7, Kind: api.EvGate, Number: 4, Count: 2, Mark: 5})
	overIs(t, r, true)
}

// DOC.md's table, P0.7: what is above the mark by more than the window waits, and one alone is held.
func TestTheWindow(t *testing.T) {
	for _, window := range []int{1, 2, 63, 64} {
		log := numbered(make([][]api.Write, 70)...)
		s := sourceOf(t, log)
		r, _ := replica.New(like(1, 1, window, 1), s, diskOf(t, 0))
		is(t, "Feed", r.Feed(70), api.OK)
		for range window {
			step(t, r, 0, 0)
		}
		step(t, r, 0)
		noStep(t, r, 0, api.ErrBusy)
		if n := len(s.Asked()); n != window+1 {
			t.Errorf("window %d: %d records read", window, n)
		}
		step(t, r, 1, 1)
		noStep(t, r, 0, api.ErrBusy)
		step(t, r, 3)
		steps(t, r, api.Event{Kind: api.EvDispatch, Number: window + 1, Mark: 1})
		all(t, r)
		markIs(t, r, 70)
	}
}

// DOC.md's table: of each key the last write alone goes out, in order; a full queue holds up a lane and a call.
func TestFullQueues(t *testing.T) {
	log := numbered(ws(put("a", "1"), put("b", "1"), put("a", "2"), put("c", "1")), ws(put("d", "1")))
	r := fed(t, like(2, 1, 4, 2), log)
	step(t, r, 0, 0, 0, 0, 1, 2)
	called(t, r, get("a"), -1)
	step(t, r, -1)
	steps(t, r, api.Event{Task: 1, Kind: api.EvSend, Number: 1}, api.Event{Task: 1, Kind: api.EvSend, Number: 1})
	readyIs(t, r, 3)
	noStep(t, r, 1, api.ErrBusy)
	noStep(t, r, 2, api.ErrBusy)
	noStep(t, r, -1, api.ErrBusy)
	steps(t, r, api.Event{Task: 3, Kind: api.EvServe, Number: 1})
	versionsAre(t, r, has("b", set(1, "1")))
	readyIs(t, r, 1, 2, 3, -1)
	steps(t, r, api.Event{Task: 2, Kind: api.EvSend, Number: 2})
	readyIs(t, r, 3)
	steps(t, r, api.Event{Task: 3, Kind: api.EvServe, Number: 1}, api.Event{Task: -1, Kind: api.EvAsk, Number: -1})
	versionsAre(t, r, has("a", set(1, "2")), has("b", set(1, "1")))
	steps(t, r, api.Event{Task: 3, Kind: api.EvServe, Number: 2}, api.Event{Task: 3, Kind: api.EvServe, Number: -1})
	steps(t, r, api.Event{Task: 2, Kind: api.EvDone, Number: 2}, api.Event{Task: -1, Kind: api.EvEnd, Number: -1})
	answerIs(t, r, -1, api.Answer{})
	heldIs(t, r, 1)
	steps(t, r, api.Event{Task: 1, Kind: api.EvSend, Number: 1})
	noStep(t, r, 1, api.ErrBusy)
	all(t, r)
	storeIs(t, r, "a", "2", "b", "1", "c", "1", "d", "1")
}

// DOC.md's table: what goes to which shard; a is in the shard 0 of two, b in 1.
func TestShards(t *testing.T) {
	r := fed(t, like(1, 2, 4, 1), numbered(ws(put("b", "1"), put("a", "1"))))
	step(t, r, 0, 0, 1)
	steps(t, r, api.Event{Task: 1, Kind: api.EvSend, Number: 1, Shard: 1}, api.Event{Task: 1, Kind: api.EvSend, Number: 1})
	steps(t, r, api.Event{Task: 2, Kind: api.EvServe, Number: 1}, api.Event{Task: 3, Kind: api.EvServe, Number: 1, Shard: 1})
	step(t, r, 1, 4)
	called(t, r, get("b"), -1)
	called(t, r, scan("", ""), -2)
	step(t, r, -1, -2)
	steps(t, r, api.Event{Task: -1, Kind: api.EvAsk, Number: -1, Shard: 1, Mark: 1}, api.Event{Task: -2, Kind: api.EvAsk, Number: -2, Mark: 1})
	noStep(t, r, -2, api.ErrBusy) // the call -1 waits in that queue
	steps(t, r, api.Event{Task: 3, Kind: api.EvServe, Number: -1, Shard: 1, Mark: 1}, api.Event{Task: -2, Kind: api.EvAsk, Number: -2, Shard: 1, Mark: 1})
	steps(t, r, api.Event{Task: 3, Kind: api.EvServe, Number: -2, Shard: 1, Mark: 1})
	noStep(t, r, -2, api.ErrBusy)
	steps(t, r, api.Event{Task: 2, Kind: api.EvServe, Number: -2, Mark: 1}, api.Event{Task: -2, Kind: api.EvEnd, Number: -2, Mark: 1})
	answerIs(t, r, -2, api.Answer{Mark: 1, OK: true, Entries: entries("a", "1", "b", "1")})
	noAnswer(t, r, -1)
}

// DOC.md: a record that was beyond the checkpoint's mark is skipped, though the mark has passed it before it is read.
func TestSkippedBelowTheMark(t *testing.T) {
	log := numbered(ws(put("a", "1")), ws(put("b", "2")), ws(put("c", "3")), ws(put("d", "4")))
	d := saved(t, api.Saved{Beyond: []int{2, 3}, Held: []api.Held{has("b", set(2, "2")), has("c", set(3, "3"))}})
	r := made(t, like(1, 1, 1, 1), log, d)
	storeIs(t, r)
	is(t, "Feed", r.Feed(4), api.OK)
	step(t, r, 0, 0, 1, 1, 2, 1)
	steps(t, r, api.Event{Task: 3, Kind: api.EvGate, Number: 1, Count: 3, Mark: 3})
	storeIs(t, r, "a", "1", "b", "2", "c", "3")
	steps(t, r,
		api.Event{Kind: api.EvRead, Number: 2, Mark: 3}, api.Event{Kind: api.EvSkip, Number: 2, Mark: 3},
		api.Event{Kind: api.EvRead, Number: 3, Mark: 3}, api.Event{Kind: api.EvSkip, Number: 3, Mark: 3},
		api.Event{Kind: api.EvRead, Number: 4, Mark: 3}, api.Event{Kind: api.EvDispatch, Number: 4, Mark: 3})
	all(t, r)
	storeIs(t, r, "a", "1", "b", "2", "c", "3", "d", "4")
}

// DOC.md: one that was beyond the mark is skipped though it is above the window.
func TestSkippedAboveTheWindow(t *testing.T) {
	log := numbered(nil, nil, nil, nil)
	r := made(t, like(1, 1, 1, 1), log, saved(t, api.Saved{Beyond: []int{2, 3}}))
	is(t, "Feed", r.Feed(4), api.OK)
	step(t, r, 0, 0)
	steps(t, r,
		api.Event{Kind: api.EvRead, Number: 2}, api.Event{Kind: api.EvSkip, Number: 2},
		api.Event{Kind: api.EvRead, Number: 3}, api.Event{Kind: api.EvSkip, Number: 3},
		api.Event{Kind: api.EvRead, Number: 4})
	noStep(t, r, 0, api.ErrBusy)
	all(t, r)
	markIs(t, r, 4)
}

// P0.2: DOC.md's example 5, in both orders: a reader at the mark 2 sees b, though 3 is installed.
func TestReadersAtTheirMark(t *testing.T) {
	r := made(t, one(), logT(), diskOf(t, 0))
	is(t, "Feed", r.Feed(2), api.OK)
	all(t, r)
	called(t, r, get("b"), -1)
	called(t, r, scan("", ""), -2)
	called(t, r, get("b"), -3)
	step(t, r, -1, -2)
	is(t, "Feed", r.Feed(3), api.OK)
	for r.Mark() < 3 {
		if _, e := r.Pick(0); e != api.OK {
			t.Fatal(e)
		}
	}
	step(t, r, -3)
	all(t, r)
	answerIs(t, r, -1, api.Answer{Mark: 2, OK: true, Entries: entries("b", "2")})
	answerIs(t, r, -2, api.Answer{Mark: 2, OK: true, Entries: entries("a", "1", "b", "2")})
	answerIs(t, r, -3, api.Answer{Mark: 3})
}

// P20.7: of a call that has ended, as often as it is asked; of all others none.
func TestAnswers(t *testing.T) {
	r := fed(t, like(1, 2, 4, 2), logT())
	all(t, r)
	called(t, r, get("a"), -1)
	called(t, r, get("b"), -2)
	called(t, r, get("c"), -3)
	called(t, r, scan("", ""), -4)
	called(t, r, scan("b", ""), -5)
	called(t, r, save(), -6)
	called(t, r, collect(), -7)
	for n := -8; n <= 6; n++ {
		noAnswer(t, r, n)
	}
	all(t, r)
	for range 2 {
		answerIs(t, r, -1, api.Answer{Mark: 3, OK: true, Entries: entries("a", "3")})
		answerIs(t, r, -2, api.Answer{Mark: 3})
		answerIs(t, r, -3, api.Answer{Mark: 3})
		answerIs(t, r, -4, api.Answer{Mark: 3, OK: true, Entries: entries("a", "3")})
		answerIs(t, r, -5, api.Answer{Mark: 3, OK: true})
		answerIs(t, r, -6, api.Answer{Mark: 3, OK: true})
		answerIs(t, r, -7, api.Answer{Mark: 3, OK: true, Count: 2})
	}
	for _, n := range []int{-8, 0, 1, 6, math.MinInt, math.MaxInt} {
		noAnswer(t, r, n)
	}
}

// P0.8: the least mark in use is that of the mark and of all other calls that have begun, and not ended.
func TestTheLeastMark(t *testing.T) {
	log := numbered(ws(put("a", "1")), ws(put("a", "2")), ws(put("a", "3")), ws(put("a", "4")))
	for name, x := range map[string]api.Call{"get": get("a"), "scan": scan("", ""), "collect": collect(), "save": save()} {
		r := made(t, one(), log, diskOf(t, 4096))
		is(t, "Feed", r.Feed(2), api.OK)
		all(t, r)
		called(t, r, x, -1)
		called(t, r, get("a"), -2)
		step(t, r, -1) // at the mark 2; -2 has not begun
		is(t, "Feed", r.Feed(4), api.OK)
		for r.Mark() < 4 {
			e, code := r.Pick(0)
			if code != api.OK || e.Task < 0 {
				t.Fatalf("%s: %+v, %v", name, e, code)
			}
		}
		called(t, r, collect(), -3)
		step(t, r, -3, -3, 2, -3)
		answerIs(t, r, -3, api.Answer{Mark: 4, OK: true, Count: 1})
		versionsAre(t, r, has("a", set(2, "2"), set(3, "3"), set(4, "4")))
		for n := 0; n < 50; n++ {
			if _, ok := r.Answer(-1); ok {
				break
			}
			if _, e := r.Step(-1); e == api.ErrBusy {
				step(t, r, 2)
			}
		}
		if _, ok := r.Answer(-1); !ok {
			t.Fatalf("%s: it has not ended", name)
		}
		called(t, r, collect(), -4)
		step(t, r, -4, -4, 2, -4)
		answerIs(t, r, -4, api.Answer{Mark: 4, OK: true, Count: 2})
		versionsAre(t, r, has("a", set(4, "4")))
	}
}

// newestIs: what the disk's newest checkpoint says.
func newestIs(t testing.TB, d *disk.Disk, want api.Saved) {
	t.Helper()
	s, _, _, ok, e := slots.Newest(d)
	if !ok || e != api.OK || s.Mark != want.Mark || !slices.Equal(s.Beyond, want.Beyond) || !sameHeld(s.Held, want.Held) {
		t.Fatalf("Newest = %+v, %v, %v, want %+v", s, ok, e, want)
	}
}

// P20.7, P0.6: a Save holds its mark, and what was beyond it when it began, whatever came since.
func TestASaveHoldsWhatWas(t *testing.T) {
	log := numbered(ws(put("a", "1")), ws(put("b", "2")), ws(put("c", "3")), ws(put("d", "4"), drop("a")), ws(put("a", "5")))
	d := diskOf(t, 4096)
	r := made(t, like(4, 1, 4, 1), log, d)
	is(t, "Feed", r.Feed(5), api.OK)
	step(t, r, 0, 0, 1, 1, 5, 1, 6) // 1 is there
	step(t, r, 0, 0, 0, 0, 0, 0, 0, 0, 1, 2, 3)
	step(t, r, 2, 5, 2, 6) // 3 is there too, beyond the mark
	markIs(t, r, 1)
	step(t, r, 3, 5) // a write of 4 is installed
	called(t, r, save(), -1)
	step(t, r, -1)
	for r.Mark() < 5 { // all is there ahead of the dump
		e, _ := r.Pick(0)
		if e.Task < 0 {
			t.Fatalf("%+v", e)
		}
	}
	all(t, r)
	answerIs(t, r, -1, api.Answer{Mark: 1, OK: true})
	newestIs(t, d, api.Saved{Mark: 1, Beyond: []int{3}, Held: []api.Held{has("a", set(1, "1")), has("c", set(3, "3"))}})
	s := sourceOf(t, log)
	x, e := replica.New(like(2, 3, 1, 2), s, d)
	is(t, "New", e, api.OK)
	markIs(t, x, 1)
	storeIs(t, x, "a", "1")
	is(t, "Feed", x.Feed(5), api.OK)
	all(t, x)
	storeIs(t, x, "a", "5", "b", "2", "c", "3", "d", "4")
	if l := s.Asked(); !slices.Equal(l, []int{2, 3, 4, 5}) {
		t.Errorf("asked for %v", l)
	}
}

// DOC.md's example 7.
func TestASaveAtTwo(t *testing.T) {
	d := diskOf(t, 4096)
	r := made(t, one(), logT(), d)
	is(t, "Feed", r.Feed(2), api.OK)
	all(t, r)
	is(t, "Feed", r.Feed(3), api.OK)
	step(t, r, 0, 0, 1, 1, 2) // 3 is not there, but a = 3 is installed
	called(t, r, save(), -1)
	for {
		if _, ok := r.Answer(-1); ok {
			break
		}
		if _, e := r.Step(-1); e == api.ErrBusy {
			step(t, r, 2)
		}
	}
	newestIs(t, d, api.Saved{Mark: 2, Held: []api.Held{has("a", set(1, "1")), has("b", set(2, "2"))}})
	x := made(t, one(), logT(), d)
	is(t, "Feed", x.Feed(3), api.OK)
	steps(t, x, api.Event{Kind: api.EvRead, Number: 3, Mark: 2})
}

// DOC.md: at most one Save goes on; which one of those that wait comes next is for whoever drives them.
func TestOneSaveAtATime(t *testing.T) {
	r := fed(t, one(), logT())
	all(t, r)
	called(t, r, save(), -1)
	called(t, r, save(), -2)
	called(t, r, save(), -3)
	called(t, r, get("a"), -4)
	readyIs(t, r, -1, -2, -3, -4)
	step(t, r, -2)
	readyIs(t, r, -2, -4)
	noStep(t, r, -1, api.ErrBusy)
	step(t, r, -2, 2)
	readyIs(t, r, -2, -4)
	steps(t, r, api.Event{Task: -2, Kind: api.EvWrite, Number: -2, Count: 1, Mark: 3}, api.Event{Task: -2, Kind: api.EvWrite, Number: -2, Mark: 3})
	noStep(t, r, -3, api.ErrBusy)
	steps(t, r, api.Event{Task: -2, Kind: api.EvEnd, Number: -2, Mark: 3})
	readyIs(t, r, -1, -3, -4)
	all(t, r)
	for _, n := range []int{-1, -2, -3} {
		answerIs(t, r, n, api.Answer{Mark: 3, OK: true})
	}
}

// DOC.md: raw writes, one a step, each told with how many are left.
func TestRawWrites(t *testing.T) {
	d := diskOf(t, 4096)
	r := made(t, one(), numbered(ws(put("a", strings.Repeat("v", 200)))), d)
	is(t, "Feed", r.Feed(1), api.OK)
	all(t, r)
	called(t, r, save(), -1)
	step(t, r, -1, -1, 2)
	for left := 4; left >= 0; left-- { // 20 bytes of the head, 210 behind it: four blocks, and the slot is cleared
		if n := d.Writes(); n != 4-left {
			t.Fatalf("%d raw writes, want %d", n, 4-left)
		}
		steps(t, r, api.Event{Task: -1, Kind: api.EvWrite, Number: -1, Count: left, Mark: 1})
	}
	noAnswer(t, r, -1)
	steps(t, r, api.Event{Task: -1, Kind: api.EvEnd, Number: -1, Mark: 1})
	newestIs(t, d, api.Saved{Mark: 1, Held: []api.Held{has("a", set(1, strings.Repeat("v", 200)))}})
}

// DOC.md, P20.2 to P20.9: a disk that is cut behind any number of raw writes is the end of the replica.
func TestCuts(t *testing.T) {
	for cut := range 5 {
		d := saved(t, api.Saved{Mark: 1, Held: []api.Held{has("a", set(1, "1"))}})
		r := made(t, one(), numbered(ws(put("a", "1")), ws(put("b", strings.Repeat("v", 200)))), d)
		is(t, "Feed", r.Feed(2), api.OK)
		all(t, r)
		called(t, r, get("a"), -1)
		all(t, r)
		called(t, r, save(), -2)
		called(t, r, get("a"), -3)
		called(t, r, get("b"), -4)
		step(t, r, -2, -2, 2, -3)
		d.Cut(cut)
		for n := range cut {
			steps(t, r, api.Event{Task: -2, Kind: api.EvWrite, Number: -2, Count: 4 - n, Mark: 2})
		}
		overIs(t, r, false)
		steps(t, r, api.Event{Task: -2, Kind: api.EvWrite, Number: -2, Count: 4 - cut, Mark: 2})
		answerIs(t, r, -2, api.Answer{Code: api.ErrCut, Mark: 2})
		dead(t, r)
		d.Mend()
		dead(t, r)
		newestIs(t, d, api.Saved{Mark: 1, Held: []api.Held{has("a", set(1, "1"))}})
	}
}

// dead: does the replica of TestCuts answer what a dead one must?
func dead(t testing.TB, r *replica.Replica) {
	t.Helper()
	readyIs(t, r)
	overIs(t, r, true)
	for _, n := range []int{0, 1, 2, 3, 4, -1, -2, -3, -4, -5, math.MaxInt, math.MinInt} {
		noStep(t, r, n, api.ErrCut)
	}
	noPick(t, r, api.ErrCut)
	is(t, "Feed(2)", r.Feed(2), api.ErrCut)
	is(t, "Feed(3)", r.Feed(3), api.ErrCut)
	noCall(t, r, get("a"), api.ErrCut)
	noCall(t, r, api.Call{}, api.ErrCut)
	answerIs(t, r, -1, api.Answer{Mark: 2, OK: true, Entries: entries("a", "1")})
	noAnswer(t, r, -3)
	noAnswer(t, r, -4)
	markIs(t, r, 2)
	heldIs(t, r)
	storeIs(t, r, "a", "1", "b", strings.Repeat("v", 200))
	versionsAre(t, r, has("a", set(1, "1")), has("b", set(2, strings.Repeat("v", 200))))
	r.Close()
	is(t, "Feed(2)", r.Feed(2), api.ErrCut)
	noCall(t, r, get("a"), api.ErrCut)
	noPick(t, r, api.ErrCut)
	overIs(t, r, true)
}

// P20.8: of a dead one what lanes hold, too.
func TestHeldOfADeadOne(t *testing.T) {
	d := diskOf(t, 100)
	r := made(t, like(3, 1, 4, 1), numbered(ws(put("a", "1")), ws(put("b", "2")), nil), d)
	is(t, "Feed", r.Feed(3), api.OK)
	step(t, r, 0, 0, 0, 0, 0, 0, 3, 1, 2)
	step(t, r, 3, 4)
	d.Cut(0)
	called(t, r, save(), -1)
	step(t, r, -1, -1, 4, -1)
	heldIs(t, r, 1, 2, 3)
	storeIs(t, r)
	versionsAre(t, r, has("a", set(1, "1")))
	overIs(t, r, true)
	answerIs(t, r, -1, api.Answer{Code: api.ErrCut})
}

// P20.7: a slot that is too small by one byte, and one that is not; a Save that is refused makes no raw write, and others go on.
func TestTooSmallASlot(t *testing.T) {
	for capacity, want := range map[int]api.Errno{0: api.ErrSpace, 29: api.ErrSpace, 30: api.OK, 31: api.OK} {
		d := diskOf(t, capacity)
		r := made(t, one(), logT(), d)
		is(t, "Feed", r.Feed(1), api.OK)
		all(t, r)
		called(t, r, save(), -1)
		called(t, r, save(), -2)
		step(t, r, -1, -1, 2)
		if want == api.OK {
			step(t, r, -1, -1)
		}
		steps(t, r, api.Event{Task: -1, Kind: api.EvEnd, Number: -1, Mark: 1})
		answerIs(t, r, -1, api.Answer{Code: want, Mark: 1, OK: want == api.OK})
		readyIs(t, r, -2)
		called(t, r, get("a"), -3)
		all(t, r)
		answerIs(t, r, -2, api.Answer{Code: want, Mark: 1, OK: want == api.OK})
		answerIs(t, r, -3, api.Answer{Mark: 1, OK: true, Entries: entries("a", "1")})
		if want != api.OK && d.Writes() != 0 {
			t.Errorf("capacity %d: %d raw writes", capacity, d.Writes())
		}
	}
}

// greatest: a disk whose checkpoint has the greatest generation, made by hand: 00 00 00 says the mark 0 and nothing else.
func greatest(t testing.TB) *disk.Disk {
	t.Helper()
	d := diskOf(t, 4096)
	head := []byte{0x54, 0x4f, 0x50, 0x57, 0, 0, 0, 0, 0, 0, 0, 0x40, 3, 0, 0, 0, 0, 0, 0, 0, 0, 0, 0}
	sum := castagnoli(slices.Concat(head[4:16], head[20:]))
	for i := range 4 {
		head[16+i] = byte(sum >> (8 * i))
	}
	is(t, "Write", d.Write(1, 0, head), api.OK)
	if _, g, _, ok, _ := slots.Newest(d); !ok || g != 4611686018427387904 {
		t.Fatalf("Newest: %d, %v", g, ok)
	}
	return d
}

// castagnoli: CRC-32C, bit by bit.
func castagnoli(b []byte) uint32 {
	sum := ^uint32(0)
	for _, x := range b {
		sum ^= uint32(x)
		for range 8 {
			sum = sum>>1 ^ 0x82f63b78*(sum&1)
		}
	}
	return ^sum
}

// P20.7: what slots.New refuses besides: no generation is left.
func TestNoGenerationIsLeft(t *testing.T) {
	d := greatest(t)
	writes := d.Writes()
	r := made(t, one(), logT(), d)
	is(t, "Feed", r.Feed(3), api.OK)
	all(t, r)
	called(t, r, save(), -1)
	if n := all(t, r); n != 4 {
		t.Errorf("%d steps, want 4", n)
	}
	answerIs(t, r, -1, api.Answer{Code: api.ErrLimit, Mark: 3})
	if d.Writes() != writes {
		t.Error("something was written")
	}
	overIs(t, r, true)
}

// P20.9: behind Close nothing is read and no call is taken; what is held is handed on, and all else goes on.
func TestClose(t *testing.T) {
	s := sourceOf(t, logT())
	r, _ := replica.New(one(), s, diskOf(t, 4096))
	is(t, "Feed", r.Feed(3), api.OK)
	called(t, r, get("a"), -1)
	step(t, r, 0, 0, 0)
	r.Close()
	r.Close()
	overIs(t, r, false)
	is(t, "Feed(3)", r.Feed(3), api.ErrStopped)
	is(t, "Feed(4)", r.Feed(4), api.ErrStopped)
	noCall(t, r, get("a"), api.ErrStopped)
	noCall(t, r, api.Call{}, api.ErrStopped)
	steps(t, r, api.Event{Kind: api.EvDispatch, Number: 2})
	noStep(t, r, 0, api.ErrBusy)
	all(t, r)
	markIs(t, r, 2)
	storeIs(t, r, "a", "1", "b", "2")
	if _, ok := r.Answer(-1); !ok {
		t.Error("the call has not ended")
	}
	overIs(t, r, true)
	noPick(t, r, api.ErrIdle)
	if l := s.Asked(); !slices.Equal(l, []int{1, 2}) {
		t.Errorf("asked for %v", l)
	}
}

// P20.9: what alone is left keeps a replica from being over.
func TestWhatIsLeft(t *testing.T) {
	r := made(t, one(), logT(), diskOf(t, 0))
	overIs(t, r, true)
	is(t, "Feed", r.Feed(1), api.OK)
	for _, task := range []int{0, 0, 1, 1, 2, 1, 3} { // to be read; held; in the line; held by the lane; out; installed; in the gate's line
		overIs(t, r, false)
		step(t, r, task)
	}
	overIs(t, r, true)
	called(t, r, get("a"), -1)
	for _, task := range []int{-1, -1, 2, -1} {
		overIs(t, r, false)
		step(t, r, task)
	}
	overIs(t, r, true)
	is(t, "Feed", r.Feed(2), api.OK)
	overIs(t, r, false)
	r.Close()
	overIs(t, r, true)
}

// R3: a replica that is not there.
func TestNone(t *testing.T) {
	for _, r := range []*replica.Replica{nil, {}} {
		is(t, "Feed", r.Feed(0), api.ErrNil)
		is(t, "Feed", r.Feed(-1), api.ErrNil)
		noCall(t, r, get("a"), api.ErrNil)
		noCall(t, r, api.Call{}, api.ErrNil)
		readyIs(t, r)
		for _, n := range []int{0, 1, -1, math.MaxInt, math.MinInt} {
			noStep(t, r, n, api.ErrNil)
			noAnswer(t, r, n)
		}
		noPick(t, r, api.ErrNil)
		markIs(t, r, 0)
		heldIs(t, r)
		storeIs(t, r)
		versionsAre(t, r)
		r.Close()
		overIs(t, r, false)
	}
}

// scribble over all of a list, its spare room too.
func scribble[T any](l []T) {
	var none T
	for i := range l[:cap(l)] {
		l[:cap(l)][i] = none
	}
}

// R4: what is done to an answer shows in no other one, nor in the replica.
func TestAnswersAreNewMemory(t *testing.T) {
	r := fed(t, like(3, 2, 4, 1), numbered(ws(put("a", "1")), ws(put("b", "2")), ws(put("a", "3")), ws(put("c", "4"))))
	step(t, r, 0, 0, 0, 0, 1, 2)
	for range 2 {
		scribble(r.Held())
		heldIs(t, r, 1, 2)
		scribble(r.Ready())
		readyIs(t, r, 0, 1, 2)
	}
	all(t, r)
	called(t, r, scan("", ""), -1)
	all(t, r)
	want := api.Answer{Mark: 4, OK: true, Entries: entries("a", "3", "b", "2", "c", "4")}
	for range 2 {
		a, _ := r.Answer(-1)
		scribble(a.Entries)
		answerIs(t, r, -1, want)
		scribble(r.Store())
		storeIs(t, r, "a", "3", "b", "2", "c", "4")
		l := r.Versions()
		for i := range l {
			scribble(l[i].Versions)
		}
		scribble(l)
		versionsAre(t, r, has("a", set(1, "1"), set(3, "3")), has("b", set(2, "2")), has("c", set(4, "4")))
	}
	// Two lists of one answer share none: what grows in one does not show in the next.
	l := r.Versions()
	for i := range l {
		l[i].Versions = append(l[i].Versions, gone(9))
	}
	for i, h := range l {
		if n := len(h.Versions); h.Versions[n-1] != gone(9) || h.Key != want.Entries[i].Key {
			t.Errorf("%v", l)
		}
	}
}

// R5: two replicas over one source and one disk share nothing else.
func TestTwoReplicas(t *testing.T) {
	s, d := sourceOf(t, logT()), diskOf(t, 4096)
	x, _ := replica.New(one(), s, d)
	y, _ := replica.New(one(), s, d)
	is(t, "Feed", x.Feed(2), api.OK)
	readyIs(t, y)
	all(t, x)
	called(t, x, get("a"), -1)
	all(t, x)
	markIs(t, y, 0)
	storeIs(t, y)
	noAnswer(t, y, -1)
	noStep(t, y, -1, api.ErrArg)
	x.Close()
	is(t, "Feed", y.Feed(3), api.OK)
	all(t, y)
	markIs(t, x, 2)
	markIs(t, y, 3)
	if l := s.Asked(); !slices.Equal(l, []int{1, 2, 1, 2, 3}) {
		t.Errorf("asked for %v", l)
	}
}

// R4: the log may be changed behind the source's back; what the replica has is its own.
func TestTheLogIsNotKept(t *testing.T) {
	log := logT()
	r := fed(t, one(), log)
	step(t, r, 0)
	for i := range log {
		scribble(log[i].Writes)
	}
	all(t, r)
	storeIs(t, r, "a", "3")
}

// P20.7: answers of very many calls are kept, and calls that have ended hold up no others.
func TestVeryManyCalls(t *testing.T) {
	r := fed(t, like(1, 2, 4, 1), logT())
	all(t, r)
	const many = 20000
	for n := range many {
		called(t, r, get("a"), -n-1)
		step(t, r, -n-1)
		all(t, r)
	}
	for n := range many {
		answerIs(t, r, -n-1, api.Answer{Mark: 3, OK: true, Entries: entries("a", "3")})
		noStep(t, r, -n-1, api.ErrBusy)
	}
	noStep(t, r, -many-1, api.ErrArg)
}
