package trace_test

import (
	"math/rand"
	"slices"
	"strconv"
	"testing"

	"towpath/api"
	"towpath/disk"
	"towpath/logfile"
	"towpath/replica"
	"towpath/slots"
	"towpath/trace"
)

// diskOf: of a capacity.
func diskOf(t testing.TB, capacity int) *disk.Disk {
	t.Helper()
	d, e := disk.New(capacity)
	if e != api.OK {
		t.Fatalf("disk.New(%d) = %v", capacity, e)
	}
	return d
}

// fed: a replica of a log over a disk, fed all of it; and from what it begins.
func fed(t testing.TB, c api.Config, log []api.Txn, d *disk.Disk) (*replica.Replica, api.Saved) {
	t.Helper()
	d.Mend()
	from, _, _, _, wrong := slots.Newest(d)
	s, e := logfile.New(log)
	r, code := replica.New(c, s, d)
	if wrong != api.OK || e != api.OK || code != api.OK || r.Feed(len(log)) != api.OK {
		t.Fatalf("no replica: %v, %v, %v", wrong, e, code)
	}
	return r, from
}

// someCall: by the dice, one that may be.
func someCall(dice *rand.Rand) api.Call {
	key := oneOf(dice, someKeys()...)
	return oneOf(dice, api.Call{Kind: api.CallGet, Key: key}, api.Call{Kind: api.CallScan, Key: key}, api.Call{Kind: api.CallCollect}, api.Call{Kind: api.CallSave}, api.Call{Kind: api.CallSave})
}

// lazily: the step of a task that can do something, seldom of the lane 1: so that it falls behind, and much is beyond the mark.
func lazily(dice *rand.Rand, r *replica.Replica) (api.Event, api.Errno) {
	l := r.Ready()
	if len(l) > 1 && dice.Intn(30) > 0 {
		l = slices.DeleteFunc(l, func(task int) bool { return task == 1 })
	}
	if len(l) == 0 {
		return r.Pick(0)
	}
	return r.Step(oneOf(dice, l...))
}

// life: a replica is driven by the dice, with calls, till it can do nothing any more or enough was done; its events.
func life(dice *rand.Rand, r *replica.Replica, many int) []api.Event {
	var l []api.Event
	for range many {
		if dice.Intn(12) == 0 {
			r.Call(someCall(dice))
		}
		if dice.Intn(400) == 0 {
			r.Close()
		}
		if e, code := lazily(dice, r); code == api.OK {
			l = append(l, e)
		}
	}
	return l
}

// follows: what P21.3 says of events that pass.
func follows(t testing.TB, c api.Config, log []api.Txn, from api.Saved, events []api.Event) {
	t.Helper()
	mark := from.Mark
	var there, dispatched []int
	for i, m := range trace.Marks(events) {
		e := events[i]
		if m < mark || m != e.Mark {
			t.Fatalf("the mark %d behind %d", m, mark)
		}
		switch e.Kind {
		case api.EvDispatch:
			if e.Number-mark > c.Window {
				t.Fatalf("%+v: above %d by more than the window", e, mark)
			}
			dispatched = append(dispatched, e.Number)
		case api.EvTake:
			for _, n := range dispatched {
				if n < e.Number && neighbours(log, n, e.Number) && !slices.Contains(there, n) {
					t.Fatalf("%+v: taken, and %d is not there", e, n)
				}
			}
		case api.EvGate:
			there = append(there, e.Number)
		}
		mark = m
	}
}

// neighbours: is some key written by both?
func neighbours(log []api.Txn, i, j int) bool {
	return slices.ContainsFunc(log[i-1].Writes, func(w api.Write) bool { return writes(log[j-1], w.Key) })
}

// P21.3: what replicas tell, from their beginning on, passes: of lives one behind the other, cut anywhere, with calls of all kinds.
func TestWhatReplicasTell(t *testing.T) {
	kinds, cuts, beyond := map[api.EventKind]int{}, 0, 0
	for seed := range int64(700) {
		dice := rand.New(rand.NewSource(seed))
		log := someLog(dice, 1+dice.Intn(60))
		d := diskOf(t, []int{0, 100, 4096, 4096}[seed%4])
		for range 5 {
			c := someConfig(dice)
			r, from := fed(t, c, log, d)
			d.Cut(dice.Intn(40) - 1)
			events := life(dice, r, 20+dice.Intn(300))
			answers(t, c, log, from, events, len(events), api.OK)
			n := dice.Intn(len(events) + 1)
			answers(t, c, log, from, events[:n], n, api.OK)
			follows(t, c, log, from, events)
			for _, e := range events {
				kinds[e.Kind]++
			}
			if d.Dead() {
				cuts++
			}
			beyond += len(from.Beyond)
		}
	}
	for kind := api.EvRead; kind <= api.EvEnd; kind++ {
		if kinds[kind] < 300 {
			t.Errorf("the kind %d: %d times", kind, kinds[kind])
		}
	}
	if cuts < 200 || beyond < 300 {
		t.Errorf("%d cuts, %d beyond", cuts, beyond)
	}
}

// P21.1, P21.3: of each task that is no call a replica's own step alone can be next; of one that can do nothing, nothing can.
func TestNothingButWhatAReplicaDoes(t *testing.T) {
	for seed := range int64(60) {
		dice := rand.New(rand.NewSource(seed))
		c, log := someConfig(dice), someLog(dice, 1+dice.Intn(12))
		picks := make([]int, 10+dice.Intn(60))
		for i := range picks {
			picks[i] = dice.Int()
		}
		again := func() (*replica.Replica, []api.Event) { // a replica cannot be copied
			r, _ := fed(t, c, log, diskOf(t, 0))
			r.Call(api.Call{Kind: api.CallScan})
			var l []api.Event
			for _, n := range picks {
				if e, code := r.Pick(n); code == api.OK {
					l = append(l, e)
				}
			}
			return r, l
		}
		_, events := again()
		for task := range c.Lanes + c.Shards + 2 {
			r, _ := again()
			own, code := r.Step(task)
			for range 400 {
				e := oneOf(dice, append(events, api.Event{}, own)...)
				if dice.Intn(2) == 0 {
					e = own
				}
				e.Task = task
				if dice.Intn(4) > 0 {
					*field(&e, 1+dice.Intn(4)) += dice.Intn(3) - 1
				}
				place, want := len(events), api.ErrTrace
				if code == api.OK && e == own {
					place, want = len(events)+1, api.OK
				}
				answers(t, c, log, api.Saved{}, append(slices.Clip(events), e), place, want)
			}
		}
	}
}

// P21.1: what a replica told is not what it would have told of another log, configuration or beginning: as far as the words say.
func TestOfAnotherReplica(t *testing.T) {
	stopped := 0
	for seed := range int64(300) {
		dice := rand.New(rand.NewSource(seed))
		c, log := someConfig(dice), someLog(dice, 1+dice.Intn(10))
		r, from := fed(t, c, log, diskOf(t, 4096))
		events := life(dice, r, 100)
		for range 6 {
			x, other, begins := c, log, from
			switch dice.Intn(3) {
			case 0:
				x = someConfig(dice)
			case 1:
				other = someLog(dice, len(log))
			case 2:
				begins = someFrom(dice, log)
			}
			if agrees(t, x, other, begins, events) < len(events) {
				stopped++
			}
		}
	}
	if stopped < 800 {
		t.Errorf("%d stopped", stopped)
	}
}

// The greatest log, with the least configuration and the greatest one; its last event spoilt.
func TestTheGreatestLog(t *testing.T) {
	log := make([]api.Txn, api.MaxLog)
	for i := range log {
		log[i] = api.Txn{Number: i + 1, Writes: ws(put(strconv.Itoa(i%1000), ""), put("k"+strconv.Itoa(i%7), ""))}
	}
	for _, c := range []api.Config{like(1, 1, 1, 1), like(16, 16, 64, 16)} {
		r, from := fed(t, c, log, diskOf(t, 0))
		var events []api.Event
		for {
			e, code := r.Pick(len(events) * 7919)
			if code != api.OK {
				break
			}
			events = append(events, e)
		}
		if len(events) != 9*api.MaxLog {
			t.Fatalf("%+v: %d events", c, len(events))
		}
		answersShort(t, c, log, from, events, len(events), api.OK)
		last := len(events) - 1
		events[last].Count++
		answersShort(t, c, log, from, events, last, api.ErrTrace)
	}
}

// answersShort: as answers, of so much that it is not told.
func answersShort(t testing.TB, c api.Config, log []api.Txn, from api.Saved, events []api.Event, place int, want api.Errno) {
	t.Helper()
	if n, e := trace.Check(c, log, from, events); n != place || e != want {
		t.Fatalf("%+v: %d, %v, want %d, %v", c, n, e, place, want)
	}
}

// Very many calls, one behind the other and all at once.
func TestVeryManyCalls(t *testing.T) {
	c := like(1, 1, 4, 1)
	const many = 100000
	var l []api.Event
	for n := range many {
		l = append(l, begin(-n-1), ask(-n-1, 0), serve(c, 0, -n-1))
	}
	for n := range many {
		l = append(l, end(-n-1))
	}
	answersShort(t, c, logT(), at(0), l, len(l), api.OK)
	answersShort(t, c, logT(), at(0), append(l, begin(-1)), len(l), api.ErrTrace)
	answersShort(t, c, logT(), at(0), append(l, begin(-many-1)), len(l)+1, api.OK)
}
