package stat_test

import (
	"math/rand"
	"slices"
	"strconv"
	"testing"

	"towpath/api"
	"towpath/disk"
	"towpath/logfile"
	"towpath/plan"
	"towpath/replica"
	"towpath/slots"
	"towpath/trace"
)

// put and drop: a write of a value, and one by which a key goes.
func put(key, val string) api.Write { return api.Write{Key: key, Val: val} }
func drop(key string) api.Write     { return api.Write{Key: key, Drop: true} }

// numbered: a log of transactions with these writes.
func numbered(l ...[]api.Write) []api.Txn {
	var log []api.Txn
	for i, w := range l {
		log = append(log, api.Txn{Number: i + 1, Writes: w})
	}
	return log
}

// logT is the document's log.
func logT() []api.Txn {
	return numbered([]api.Write{put("a", "1")}, []api.Write{put("b", "2")}, []api.Write{put("a", "3"), drop("b")})
}

// counting: how many writes of a log count, but those of transactions that are left out: of each key one.
func counting(log []api.Txn, without func(number int) bool) int {
	type write struct {
		number int
		key    string
	}
	all := map[write]bool{}
	for _, txn := range log {
		for _, w := range txn.Writes {
			if !without(txn.Number) {
				all[write{txn.Number, w.Key}] = true
			}
		}
	}
	return len(all)
}

// none is left out.
func none(int) bool { return false }

// diskOf: of a capacity.
func diskOf(t testing.TB, capacity int) *disk.Disk {
	t.Helper()
	d, e := disk.New(capacity)
	if e != api.OK {
		t.Fatalf("disk.New(%d): %v", capacity, e)
	}
	return d
}

// fed: a replica of a log over a disk, fed all of it; and from what it begins.
func fed(t testing.TB, c api.Config, log []api.Txn, d *disk.Disk) (*replica.Replica, api.Saved) {
	t.Helper()
	d.Mend()
	from, _, _, _, wrong := slots.Newest(d)
	s, e := logfile.New(log)
	r, code := replica.New(c, s, d)
	if wrong != api.OK || e != api.OK || code != api.OK || r.Feed(len(log)) != api.OK {
		t.Fatalf("no replica: %v, %v, %v", wrong, e, code)
	}
	return r, from
}

// run of a replica: its events, and how many transactions were held by lanes behind each.
type run struct {
	events []api.Event
	held   []int
}

// note what a step told.
func (x *run) note(r *replica.Replica, e api.Event) {
	x.events = append(x.events, e)
	x.held = append(x.held, len(r.Held()))
}

// picked: a replica goes on by the dice, with calls, for so many steps at the most; seldom by the lane 1, so that it falls behind.
func (x *run) picked(dice *rand.Rand, r *replica.Replica, many int) {
	for range many {
		if dice.Intn(15) == 0 {
			r.Call(oneOf(dice, api.Call{Kind: api.CallGet, Key: "a"}, api.Call{Kind: api.CallScan}, api.Call{Kind: api.CallCollect}, api.Call{Kind: api.CallSave}))
		}
		l := r.Ready()
		if len(l) > 1 && dice.Intn(20) > 0 {
			l = slices.DeleteFunc(l, func(task int) bool { return task == 1 })
		}
		if len(l) == 0 {
			continue
		}
		if e, code := r.Step(oneOf(dice, l...)); code == api.OK {
			x.note(r, e)
		}
	}
}

// toTheEnd: a replica goes on by the dice till it can do nothing any more.
func (x *run) toTheEnd(dice *rand.Rand, r *replica.Replica) {
	for {
		e, code := r.Pick(dice.Int())
		if code != api.OK {
			return
		}
		x.note(r, e)
	}
}

// follows: are the stats of a run those of the replica that told it? The rest of what P26.3 says.
func (x *run) follows(t testing.TB, c api.Config, log []api.Txn, from api.Saved) api.Stats {
	t.Helper()
	if n, e := trace.Check(c, log, from, x.events); n != len(x.events) || e != api.OK {
		t.Fatalf("Check: %d, %v of %d events", n, e, len(x.events))
	}
	s, sum, most := of(t, c, x.events), 0, 0
	for _, n := range lanes(t, c, x.events) {
		sum += n
	}
	for _, n := range x.held {
		most, sum = max(most, n), sum-n
	}
	if s.Steps != len(x.events) || s.Busy != most || sum != 0 {
		t.Errorf("%+v: %+v of %d events, %d held, the sum of Lanes is off by %d", c, s, len(x.events), most, sum)
	}
	if s.Lag > c.Window || s.Busy > c.Lanes {
		t.Errorf("%+v: %+v", c, s)
	}
	sumIsEnough(t, c, x.events)
	return s
}

// answered: how many calls have an answer, but those that were cut.
func answered(r *replica.Replica) int {
	n := 0
	for call := -1; call > -1000; call-- {
		if a, ok := r.Answer(call); ok && a.Code != api.ErrCut {
			n++
		}
	}
	return n
}

// someLog: of so many transactions, by the dice; of some keys there are several writes in one.
func someLog(dice *rand.Rand, length int) []api.Txn {
	l := make([][]api.Write, length)
	for i := range l {
		for range dice.Intn(5) {
			w := drop(strconv.Itoa(dice.Intn(2 + dice.Intn(30))))
			if dice.Intn(3) > 0 {
				w = put(w.Key, strconv.Itoa(i))
			}
			l[i] = append(l[i], w)
		}
	}
	return numbered(l...)
}

// someConfig: small ones mostly.
func someConfig(dice *rand.Rand) api.Config {
	if dice.Intn(6) == 0 {
		return like(1+dice.Intn(16), 1+dice.Intn(16), 1+dice.Intn(64), 1+dice.Intn(16))
	}
	return like(1+dice.Intn(4), 1+dice.Intn(3), 1+dice.Intn(8), 1+dice.Intn(2))
}

// P26.3: the document's log, by one lane: the numbers of its fourth example.
func TestTheLogT(t *testing.T) {
	c := like(1, 1, 4, 1)
	r, from := fed(t, c, logT(), diskOf(t, 0))
	var x run
	x.toTheEnd(rand.New(rand.NewSource(0)), r)
	s := x.follows(t, c, logT(), from)
	if s.Lag < 1 || s.Lag > 3 {
		t.Errorf("%+v", s)
	}
	if s.Lag = 0; s != (api.Stats{Steps: 23, Installs: 4, Busy: 1}) {
		t.Errorf("%+v", s)
	}
}

// P26.3: behind the whole log Installs is how many writes of it count, whatever the schedule and the calls.
func TestBehindTheWholeLog(t *testing.T) {
	var all api.Stats
	full, wide := 0, 0
	for seed := range int64(400) {
		dice := rand.New(rand.NewSource(seed))
		c, log := someConfig(dice), someLog(dice, dice.Intn(40))
		r, from := fed(t, c, log, diskOf(t, 4096))
		var x run
		x.picked(dice, r, 100)
		x.toTheEnd(dice, r)
		s := x.follows(t, c, log, from)
		if want := counting(log, none); !r.Over() || s.Installs != want || s.Reads != answered(r) {
			t.Fatalf("%+v: %+v, %d writes count, %d calls have answers", c, s, want, answered(r))
		}
		if s.Busy == c.Lanes && c.Lanes > 1 {
			full++
		}
		if s.Lag == c.Window {
			wide++
		}
		all.Installs, all.Reads = all.Installs+s.Installs, all.Reads+s.Reads
	}
	if full < 50 || wide < 50 || all.Installs < 5000 || all.Reads < 1000 {
		t.Errorf("all lanes busy %d times, the window full %d times, %+v", full, wide, all)
	}
}

// P26.3: lives one behind the other, cut anywhere: what the checkpoint has is not installed again, and a call that is cut has not ended.
func TestFromCheckpoints(t *testing.T) {
	cuts, marks, beyond := 0, 0, 0
	for seed := range int64(300) {
		dice := rand.New(rand.NewSource(seed))
		log, d := someLog(dice, 1+dice.Intn(60)), diskOf(t, 4096)
		for range 4 {
			c := someConfig(dice)
			r, from := fed(t, c, log, d)
			d.Cut(dice.Intn(40) - 1)
			var x run
			x.picked(dice, r, 20+dice.Intn(300))
			x.toTheEnd(dice, r)
			s := x.follows(t, c, log, from)
			want := counting(log, func(n int) bool { return n <= from.Mark || slices.Contains(from.Beyond, n) })
			if s.Reads != answered(r) || s.Installs > want || r.Mark() == len(log) && s.Installs != want {
				t.Fatalf("%+v from %+v: %+v, want %d writes, %d calls", c, from, s, want, answered(r))
			}
			if d.Dead() {
				cuts++
			}
			marks, beyond = marks+min(from.Mark, 1), beyond+len(from.Beyond)
		}
	}
	if cuts < 100 || marks < 200 || beyond < 100 {
		t.Errorf("%d cuts, %d checkpoints, %d beyond", cuts, marks, beyond)
	}
}

// P26.1, P26.2: plans, of which it is known how many lanes hold one.
func TestPlans(t *testing.T) {
	log := numbered([]api.Write{put("a", "")}, []api.Write{put("b", ""), put("b", "1")}, nil, []api.Write{drop("c")})
	for many := 1; many <= 16; many++ {
		c := like(many, 2, 4, 1)
		serial, wrong := plan.Serial(c, log)
		if wrong != api.OK {
			t.Fatal(wrong)
		}
		if s := planned(t, c, log, serial); s.Busy != 1 || s.Lag != 1 || s.Installs != 3 {
			t.Errorf("%+v: %+v", c, s)
		}
		if many == 1 {
			continue
		}
		apart, wrong := plan.Apart(c, log, 1, 2)
		if wrong != api.OK {
			t.Fatal(wrong)
		}
		if s := planned(t, c, log, apart); s.Busy != 2 || s.Lag != 2 {
			t.Errorf("%+v: %+v", c, s)
		}
	}
}

// planned: the stats of what a replica tells that goes by a plan.
func planned(t testing.TB, c api.Config, log []api.Txn, tasks []int) api.Stats {
	t.Helper()
	r, from := fed(t, c, log, diskOf(t, 0))
	var x run
	for _, task := range tasks {
		e, code := r.Step(task)
		if code != api.OK {
			t.Fatalf("Step(%d): %v", task, code)
		}
		x.note(r, e)
	}
	return x.follows(t, c, log, from)
}

// The greatest log, with the least configuration and the greatest one.
func TestTheGreatestLog(t *testing.T) {
	log := make([]api.Txn, api.MaxLog)
	for i := range log {
		log[i] = api.Txn{Number: i + 1, Writes: []api.Write{put(strconv.Itoa(i), ""), put("k"+strconv.Itoa(i%7), "")}}
	}
	for _, c := range []api.Config{like(1, 1, 1, 1), like(16, 16, 64, 16)} {
		r, _ := fed(t, c, log, diskOf(t, 0))
		var x run
		x.toTheEnd(rand.New(rand.NewSource(1)), r)
		s, sum := of(t, c, x.events), 0
		if s.Steps != 9*api.MaxLog || s.Installs != 2*api.MaxLog || s.Reads != 0 || s.Lag > c.Window || s.Busy != slices.Max(x.held) {
			t.Errorf("%+v: %+v", c, s)
		}
		for _, n := range lanes(t, c, x.events) {
			sum += n
		}
		for _, n := range x.held {
			sum -= n
		}
		if sum != 0 {
			t.Errorf("%+v: the sum of Lanes is off by %d", c, sum)
		}
	}
}

// Very many events: all of a list as long as this are looked at.
func TestVeryManyEvents(t *testing.T) {
	const many = 1 << 17
	l := make([]api.Event, 0, 5*many)
	for range many {
		l = append(l, take(16), serve(65536), dispatch(65536, 65500), done(16), end(-many))
	}
	c := like(16, 1, 1, 1)
	want := make([]int, 16)
	want[15] = 3 * many
	if s := of(t, c, l); s != (api.Stats{Steps: 5 * many, Installs: many, Lag: 36, Busy: 1, Reads: many}) {
		t.Errorf("%+v", s)
	}
	if got := lanes(t, c, l); !slices.Equal(got, want) {
		t.Errorf("%v", got)
	}
}
