package count_test

import (
	"fmt"
	"math/rand"
	"slices"
	"strconv"
	"testing"

	"towpath/api"
	"towpath/count"
	"towpath/disk"
	"towpath/logfile"
	"towpath/replica"
	"towpath/slots"
)

// oneOf: one of these, by the dice.
func oneOf[T any](dice *rand.Rand, l ...T) T { return l[dice.Intn(len(l))] }

// someKeys: few, so that they meet; one is the beginning of another, one is above all ASCII.
func someKeys() []string { return []string{"A", "a", "ab", "b", "c", "\xff"} }

// someLog: of so many transactions, by the dice.
func someLog(dice *rand.Rand, length int) []api.Txn {
	l := make([][]api.Write, length)
	keys := someKeys()[:1+dice.Intn(6)]
	if dice.Intn(2) == 0 {
		for n := range 20 {
			keys = append(keys, "k"+strconv.Itoa(n))
		}
	}
	for i := range l {
		for range dice.Intn(5) {
			w := drop(oneOf(dice, keys...))
			if dice.Intn(3) > 0 {
				w = put(w.Key, strconv.Itoa(i+1))
			}
			l[i] = append(l[i], w)
		}
	}
	return numbered(l...)
}

// someConfig: small ones mostly.
func someConfig(dice *rand.Rand) api.Config {
	if dice.Intn(8) == 0 {
		return like(1+dice.Intn(16), 1+dice.Intn(16), 1+dice.Intn(64), 1+dice.Intn(16))
	}
	return like(1+dice.Intn(4), 1+dice.Intn(3), 1+dice.Intn(8), 1+dice.Intn(2))
}

// someCall: by the dice, one that saves nothing.
func someCall(dice *rand.Rand) api.Call {
	key := oneOf(dice, someKeys()...)
	return oneOf(dice, get(key), scan(key, ""), scan("", key), collect())
}

// logTakes, callTakes, saveTakes: what is counted of those that may be.
func logTakes(t testing.TB, l []api.Txn, mark int, beyond []int) int {
	t.Helper()
	n, e := count.Log(l, mark, beyond)
	if e != api.OK {
		t.Fatalf("Log(%v, %d, %v): %v", l, mark, beyond, e)
	}
	return n
}

func callTakes(t testing.TB, c api.Config, x api.Call) int {
	t.Helper()
	n, e := count.Call(c, x)
	if e != api.OK {
		t.Fatalf("Call(%v, %v): %v", c, x, e)
	}
	return n
}

func saveTakes(t testing.TB, c api.Config, s api.Saved) int {
	t.Helper()
	n, e := count.Save(c, s)
	if e != api.OK {
		t.Fatalf("Save(%v, %v): %v", c, s, e)
	}
	return n
}

// made: a replica of a log, over a disk.
func made(t testing.TB, c api.Config, l []api.Txn, d *disk.Disk) *replica.Replica {
	t.Helper()
	s, e := logfile.New(l)
	r, code := replica.New(c, s, d)
	if e != api.OK || code != api.OK {
		t.Fatalf("no replica: %v, %v", e, code)
	}
	return r
}

// diskOf: of a capacity.
func diskOf(t testing.TB, capacity int) *disk.Disk {
	t.Helper()
	d, e := disk.New(capacity)
	if e != api.OK {
		t.Fatal(e)
	}
	return d
}

// lazily: the step of a task that can do something, seldom of the lane 1: so that it falls behind, and much is beyond the mark.
func lazily(dice *rand.Rand, r *replica.Replica) (api.Event, api.Errno) {
	l := r.Ready()
	if len(l) > 1 && dice.Intn(30) > 0 {
		l = slices.DeleteFunc(l, func(task int) bool { return task == 1 })
	}
	if len(l) == 0 {
		return r.Pick(0)
	}
	return r.Step(oneOf(dice, l...))
}

// P22.2: a log's is the sum of its transactions', whatever is skipped.
func TestLogsByTheDice(t *testing.T) {
	for seed := range int64(500) {
		dice := rand.New(rand.NewSource(seed))
		l := someLog(dice, dice.Intn(40))
		mark := dice.Intn(len(l) + 1)
		var beyond []int
		want := 0
		for _, x := range l[mark:] {
			skipped := x.Number > mark+1 && dice.Intn(2) == 0
			if skipped {
				beyond = append(beyond, x.Number)
			}
			n, e := count.Txn(x, skipped)
			if e != api.OK {
				t.Fatal(e)
			}
			want += n
		}
		log(t, l, mark, beyond, want, api.OK)
	}
}

// stateOf: what events lead to: of each task what it did, and of each line in what order it was filled. Two schedules with the same have led to the same state.
func stateOf(events []api.Event) string {
	tasks, lines := map[int][]api.Event{}, map[string][]int{}
	for _, e := range events {
		tasks[e.Task] = append(tasks[e.Task], e)
		line := ""
		switch e.Kind {
		case api.EvSend, api.EvAsk:
			line = fmt.Sprint("the queue ", e.Shard)
		case api.EvDispatch, api.EvGate:
			line = "the line"
		case api.EvDone:
			line = "the gate's line"
		}
		lines[line] = append(lines[line], e.Number)
	}
	delete(lines, "")
	return fmt.Sprint(tasks, lines)
}

// everyEnd: all schedules: at how many steps they end, and how many states there are. (All ways to a state have as many steps, so that one way to each is enough.)
func everyEnd(t *testing.T, c api.Config, l []api.Txn, calls ...api.Call) (ends map[int]int, states int) {
	t.Helper()
	seen, ends := map[string]struct{}{}, map[int]int{}
	ways := [][]int{nil}
	for len(ways) > 0 {
		path := ways[len(ways)-1]
		ways = ways[:len(ways)-1]
		r := made(t, c, l, diskOf(t, 0))
		r.Feed(len(l))
		for _, x := range calls {
			r.Call(x)
		}
		var events []api.Event
		for _, task := range path {
			e, code := r.Step(task)
			if code != api.OK {
				t.Fatal(code)
			}
			events = append(events, e)
		}
		state, ready := stateOf(events), r.Ready()
		if _, ok := seen[state]; ok {
			continue
		}
		seen[state] = struct{}{}
		if r.Over() != (len(ready) == 0) {
			t.Fatalf("%v: over %v, ready %v", path, r.Over(), ready)
		}
		if len(ready) == 0 {
			ends[len(path)]++
		}
		for _, task := range ready {
			ways = append(ways, append(slices.Clone(path), task))
		}
	}
	return ends, len(seen)
}

// P22.4: all schedules of small logs, with calls, end behind just so many steps.
func TestEverySchedule(t *testing.T) {
	alone := numbered(ws(put("a", "1")), ws(put("b", "2"), put("a", "2"), drop("b")))
	apart := numbered(ws(put("a", "1")), ws(put("b", "2")))
	for _, x := range []struct {
		c     api.Config
		l     []api.Txn
		calls []api.Call
	}{
		{like(1, 1, 4, 1), logT(), nil},
		{like(2, 2, 4, 1), apart, nil},
		{like(2, 2, 1, 2), alone, nil},
		{like(2, 1, 4, 1), alone, []api.Call{get("a")}},
		{like(1, 2, 4, 1), numbered(ws(put("a", "1"))), []api.Call{scan("", "")}},
		{like(1, 2, 4, 1), nil, []api.Call{scan("", ""), collect()}},
		{like(1, 1, 4, 1), nil, []api.Call{get("a"), get("b"), collect()}},
	} {
		want := logTakes(t, x.l, 0, nil)
		for _, k := range x.calls {
			want += callTakes(t, x.c, k)
		}
		ends, states := everyEnd(t, x.c, x.l, x.calls...)
		if len(ends) != 1 || ends[want] == 0 || states < want {
			t.Errorf("%+v: ends %v of %d states, want %d", x, ends, states, want)
		}
	}
}

// goOn: a replica is fed all, with calls at any time, and driven till it is over; how many steps it took, and how many its calls must.
func goOn(t testing.TB, dice *rand.Rand, c api.Config, l []api.Txn, r *replica.Replica) (steps, calls int) {
	t.Helper()
	r.Feed(len(l))
	for left := dice.Intn(20); ; {
		if left > 0 && dice.Intn(6) == 0 {
			x := someCall(dice)
			if _, e := r.Call(x); e == api.OK {
				calls += callTakes(t, c, x)
			}
			left--
		}
		switch _, e := lazily(dice, r); {
		case e == api.OK:
			steps++
		case e != api.ErrIdle:
			t.Fatal(e)
		case left == 0:
			return steps, calls
		}
	}
}

// P22.4: whatever the schedule, from behind checkpoints with much beyond their marks, with calls at any time.
func TestWhatReplicasTake(t *testing.T) {
	beyond := 0
	for seed := range int64(400) {
		dice := rand.New(rand.NewSource(seed))
		l := someLog(dice, 1+dice.Intn(60))
		d := diskOf(t, api.MaxDisk)
		for range 3 {
			c := someConfig(dice)
			from, _, _, _, _ := slots.Newest(d)
			r := made(t, c, l, d)
			steps, calls := goOn(t, dice, c, l, r)
			want := logTakes(t, l, from.Mark, from.Beyond) + calls
			if steps != want || !r.Over() || r.Mark() != len(l) {
				t.Fatalf("%d steps from %d, %v, want %d", steps, from.Mark, from.Beyond, want)
			}
			beyond += len(from.Beyond)
			saveSomewhere(t, dice, c, l, d)
		}
	}
	if beyond < 200 {
		t.Errorf("%d beyond", beyond)
	}
}

// saveSomewhere: a replica goes on from the disk, and saves at some time.
func saveSomewhere(t testing.TB, dice *rand.Rand, c api.Config, l []api.Txn, d *disk.Disk) {
	t.Helper()
	r := made(t, c, l, d)
	r.Feed(len(l))
	for range dice.Intn(200) {
		lazily(dice, r)
	}
	n, e := r.Call(save())
	for e == api.OK {
		if _, ok := r.Answer(n); ok {
			return
		}
		_, e = lazily(dice, r)
	}
	t.Fatal(e)
}

// P0.3, P22.3: with a Save too it is told how many steps there are, by what it saved.
func TestWhatSavesTake(t *testing.T) {
	writes := map[int]int{}
	for seed := range int64(300) {
		dice := rand.New(rand.NewSource(seed))
		c, l := someConfig(dice), someLog(dice, 1+dice.Intn(60))
		d := diskOf(t, 1<<16)
		r := made(t, c, l, d)
		r.Feed(len(l))
		steps := 0
		for range dice.Intn(300) {
			if _, e := lazily(dice, r); e == api.OK {
				steps++
			}
		}
		r.Call(save())
		more, calls := goOn(t, dice, c, l, r)
		s, _, _, ok, _ := slots.Newest(d)
		want := logTakes(t, l, 0, nil) + calls + saveTakes(t, c, s)
		if steps+more != want || !ok {
			t.Fatalf("%d steps, want %d", steps+more, want)
		}
		writes[d.Writes()]++
	}
	if len(writes) < 4 {
		t.Errorf("raw writes: %v", writes)
	}
}

// P22.1, P22.2: the greatest log there is.
func TestTheGreatestLog(t *testing.T) {
	l := make([]api.Txn, api.MaxLog)
	var all []api.Write
	for n := range api.MaxWrites {
		all = append(all, put("key "+strconv.Itoa(n), "v"))
	}
	var beyond []int
	for i := range l {
		l[i] = api.Txn{Number: i + 1, Writes: all}
		if i%2 == 1 {
			beyond = append(beyond, i+1)
		}
	}
	log(t, l, 0, nil, 69*api.MaxLog, api.OK)
	log(t, l, 0, beyond, 71*api.MaxLog/2, api.OK)
	log(t, l, 100, beyond[51:], 71*(api.MaxLog/2-50)+67, api.OK)
	log(t, l, api.MaxLog, nil, 0, api.OK)
}

// FuzzTxn: 5 and 2 for each key that some write has, by a search without a map.
func FuzzTxn(f *testing.F) {
	f.Add(1, "a\x00b\x00a", false)
	f.Add(0, "", true)
	f.Fuzz(func(t *testing.T, number int, keys string, skipped bool) {
		x := api.Txn{Number: number}
		may := number >= 1 && number <= api.MaxLog
		var apart []string
		for i := 0; i < len(keys); i += 2 {
			key := keys[i:min(i+2, len(keys))]
			if key[0] == 'E' {
				key, may = "", false
			}
			x.Writes = append(x.Writes, put(key, "v"))
			if !slices.Contains(apart, key) {
				apart = append(apart, key)
			}
		}
		switch {
		case !may || len(x.Writes) > api.MaxWrites:
			txn(t, x, skipped, 0, api.ErrArg)
		case skipped:
			txn(t, x, true, 2, api.OK)
		default:
			txn(t, x, false, 5+2*len(apart), api.OK)
		}
	})
}
