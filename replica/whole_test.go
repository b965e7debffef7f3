package replica_test

import (
	"fmt"
	"math"
	"math/rand"
	"slices"
	"strconv"
	"testing"

	"towpath/api"
	"towpath/disk"
	"towpath/fold"
	"towpath/slots"
)

// folds: P0.1, P0.2 and P0.8 at this moment: the store is the fold up to the mark; so is what readers were answered, up to theirs; and no key has two versions at or below the least mark that was in use, of a Collect that has ended.
func (b *both) folds() {
	b.t.Helper()
	log := b.p.log
	if want, _ := fold.Store(log, b.r.Mark()); !slices.Equal(b.r.Store(), want) {
		b.t.Fatalf("the store at %d: %v, want %v", b.r.Mark(), b.r.Store(), want)
	}
	for i, k := range b.p.calls {
		a, ok := b.r.Answer(-i - 1)
		if !ok {
			continue
		}
		switch k.x.Kind {
		case api.CallGet:
			val, is, _ := fold.Get(log, a.Mark, k.x.Key)
			if is != a.OK || is && a.Entries[0] != (api.Entry{Key: k.x.Key, Val: val}) {
				b.t.Fatalf("the call %d: %+v, want %q, %v", -i-1, a, val, is)
			}
		case api.CallScan:
			if want, _ := fold.Scan(log, a.Mark, k.x.Key, k.x.End); !slices.Equal(a.Entries, want) {
				b.t.Fatalf("the call %d: %+v, want %v", -i-1, a, want)
			}
		case api.CallCollect:
			for _, h := range b.r.Versions() {
				if len(h.Versions) > 1 && h.Versions[1].Number <= k.least {
					b.t.Fatalf("collected at %d: %v", k.least, h)
				}
			}
		}
	}
}

// takes: P0.3: how many steps a log from behind a checkpoint and calls take, Saves aside.
func takes(c api.Config, log []api.Txn, mark int, beyond []int, calls ...api.Call) int {
	n := 0
	for _, t := range log[mark:] {
		if slices.Contains(beyond, t.Number) {
			n += 2
		} else {
			n += 5 + 2*len(counting(t))
		}
	}
	for _, x := range calls {
		if x.Kind == api.CallGet {
			n += 4
		} else {
			n += 2 + 2*c.Shards
		}
	}
	return n
}

// replayed: both, fed all at once, with these calls, behind these steps.
func replayed(t testing.TB, c api.Config, log []api.Txn, calls []api.Call, path []int) *both {
	t.Helper()
	b := newBoth(t, c, log, 100)
	b.feed(len(log))
	for _, x := range calls {
		b.call(x, true)
	}
	for _, task := range path {
		if _, e := b.step(task); e != api.OK {
			t.Fatalf("%v: %v", path, e)
		}
	}
	return b
}

// everySchedule goes through all states to which schedules lead, each by one way to it; how many there are.
func everySchedule(t *testing.T, c api.Config, log []api.Txn, calls ...api.Call) int {
	t.Helper()
	seen := map[string]struct{}{}
	ways := [][]int{nil}
	marks := map[int]struct{}{} // at which the first call began
	for len(ways) > 0 {
		path := ways[len(ways)-1]
		ways = ways[:len(ways)-1]
		b := replayed(t, c, log, calls, path)
		state := b.p.state()
		if _, ok := seen[state]; ok {
			continue
		}
		seen[state] = struct{}{}
		b.alike()
		b.folds()
		ready := b.r.Ready()
		if len(ready) == 0 {
			b.ended(len(path), takes(c, log, 0, nil, calls...))
			if len(calls) > 0 {
				a, _ := b.r.Answer(-1)
				marks[a.Mark] = struct{}{}
			}
		}
		for _, task := range ready {
			ways = append(ways, append(slices.Clone(path), task))
		}
	}
	if len(calls) > 0 && len(marks) != len(log)+1 {
		t.Errorf("the first call began at %d marks", len(marks))
	}
	return len(seen)
}

// ended: nothing is left; so much was done.
func (b *both) ended(done, want int) {
	b.t.Helper()
	if b.r.Mark() != len(b.p.log) || done != want {
		b.t.Fatalf("the end: mark %d, %d steps, want %d", b.r.Mark(), done, want)
	}
	for n := range b.p.calls {
		if _, ok := b.r.Answer(-n - 1); !ok {
			b.t.Fatalf("the end: the call %d has no answer", -n-1)
		}
	}
}

// P0.1 to P0.3, P0.8: all schedules of small logs.
func TestEverySchedule(t *testing.T) {
	alone := numbered(ws(put("a", "1")), ws(put("b", "2"), put("a", "2"), drop("b")))
	for name, n := range map[string]int{
		"T, one lane":          everySchedule(t, one(), logT()),
		"T, two lanes":         everySchedule(t, like(2, 2, 4, 1), logT()),
		"T, window 1":          everySchedule(t, like(2, 1, 1, 1), logT()),
		"T, window 2, queue 2": everySchedule(t, like(3, 1, 2, 2), logT()),
		"T and a Get":          everySchedule(t, one(), logT(), get("b")),
		"T and a Scan":         everySchedule(t, like(1, 2, 4, 1), logT(), scan("", "")),
		"two and a Collect":    everySchedule(t, one(), alone, get("a"), collect()),
		"empty ones":           everySchedule(t, like(2, 1, 2, 1), numbered(nil, nil, nil), collect()),
	} {
		t.Logf("%s: %d states", name, n)
		if n < 20 {
			t.Errorf("%s: %d states", name, n)
		}
	}
}

// DOC.md's example 6: with two lanes 1 and 2 are both held in some schedule, 1 and 3 in none.
func TestHeldTogether(t *testing.T) {
	together := map[[2]int]int{}
	for seed := range 300 {
		r := rand.New(rand.NewSource(int64(seed)))
		x := fed(t, like(2, 2, 4, 1), logT())
		for !x.Over() {
			x.Pick(r.Intn(100))
			if l := x.Held(); len(l) == 2 {
				together[[2]int(l)]++
			}
		}
	}
	if together[[2]int{1, 2}] == 0 || len(together) != 1 {
		t.Errorf("held together: %v", together)
	}
}

// someKeys: few, so that they meet; one is the beginning of another, one is above all ASCII.
func someKeys() []string { return []string{"A", "a", "ab", "b", "c", "\xff"} }

// manyKeys: so many that transactions go beside one another.
func manyKeys() []string {
	l := someKeys()
	for n := range 20 {
		l = append(l, "k"+strconv.Itoa(n))
	}
	return l
}

// oneOf: one of these, by the dice.
func oneOf[T any](dice *rand.Rand, l ...T) T { return l[dice.Intn(len(l))] }

// someLog: of so many transactions, by the dice.
func someLog(dice *rand.Rand, length int) []api.Txn {
	writes := make([][]api.Write, length)
	keys := someKeys()[:1+dice.Intn(6)]
	if dice.Intn(2) == 0 {
		keys = manyKeys()
	}
	for i := range writes {
		for range dice.Intn(4) {
			w := drop(oneOf(dice, keys...))
			if dice.Intn(3) > 0 {
				w = put(w.Key, strconv.Itoa(i+1))
			}
			writes[i] = append(writes[i], w)
		}
	}
	return numbered(writes...)
}

// someConfig: small ones mostly.
func someConfig(dice *rand.Rand) api.Config {
	if dice.Intn(8) == 0 {
		return like(1+dice.Intn(16), 1+dice.Intn(16), 1+dice.Intn(64), 1+dice.Intn(16))
	}
	return like(1+dice.Intn(3), 1+dice.Intn(3), 1+dice.Intn(5), 1+dice.Intn(2))
}

// someCall: by the dice, one that may be.
func someCall(dice *rand.Rand) api.Call {
	key := func() string { return oneOf(dice, append(someKeys(), "", "z")...) }
	switch dice.Intn(5) {
	case 0, 1:
		return get(oneOf(dice, someKeys()...))
	case 2:
		return scan(key(), key())
	case 3:
		return collect()
	}
	return save()
}

// spoilt: a call that may not be, by the dice.
func spoilt(dice *rand.Rand) api.Call {
	return oneOf(dice, api.Call{}, get(""), api.Call{Kind: api.CallGet, Key: "a", End: "b"}, api.Call{Kind: api.CallSave, Key: "a"}, api.Call{Kind: api.CallCollect, End: "a"}, api.Call{Kind: 9}, api.Call{Key: "a"})
}

// anyTask: by the dice, one that there is or is not.
func (b *both) anyTask(dice *rand.Rand) int {
	if dice.Intn(20) == 0 {
		return oneOf(dice, math.MinInt, math.MaxInt, b.p.c.Lanes+b.p.c.Shards+2, -len(b.p.calls)-1)
	}
	return oneOf(dice, b.p.tasks()...)
}

// lazily: a step of a task that can do something, seldom of the lane 1: so that it falls behind, and much is beyond the mark.
func (b *both) lazily(dice *rand.Rand) (api.Event, api.Errno) {
	b.t.Helper()
	l := b.p.ready()
	if len(l) > 1 && dice.Intn(30) > 0 {
		l = slices.DeleteFunc(l, func(task int) bool { return task == 1 })
	}
	if len(l) == 0 {
		return b.pick(dice.Int())
	}
	return b.step(oneOf(dice, l...))
}

// move: one thing, by the dice; what it was.
func (b *both) move(dice *rand.Rand) string {
	b.t.Helper()
	var e api.Errno
	var event api.Event
	name := ""
	switch n := dice.Intn(100); {
	case n < 20:
		name = "pick"
		event, e = b.pick(dice.Int() - dice.Int())
	case n < 50:
		name = "lazily"
		event, e = b.lazily(dice)
	case n < 70:
		name = "step"
		event, e = b.step(b.anyTask(dice))
	case n < 80:
		name = "feed"
		e = b.feed(b.p.fed + dice.Intn(6) - 1)
	case n < 90:
		name = "call"
		_, e = b.call(someCall(dice), true)
	case n < 93:
		name = "call"
		_, e = b.call(spoilt(dice), false)
	case n < 96:
		name = "cut"
		b.cut(dice.Intn(12) - 1)
	case n == 96 && dice.Intn(8) == 0:
		name = "close"
		b.close()
	case n == 97:
		name = "crash"
		b.crash(someConfig(dice), b.p.log)
	}
	if event.Kind != api.EvNone {
		return fmt.Sprint("event ", event.Kind)
	}
	return fmt.Sprint(name, " ", int(e))
}

// someSaved: what a checkpoint of a log says, with a mark and some beyond it, by the dice.
func someSaved(dice *rand.Rand, log []api.Txn) api.Saved {
	s := api.Saved{Mark: dice.Intn(len(log) + 1)}
	for n := s.Mark + 2; n <= len(log) && n < s.Mark+8; n++ {
		if dice.Intn(2) == 0 {
			s.Beyond = append(s.Beyond, n)
		}
	}
	for _, key := range slices.Sorted(slices.Values(manyKeys())) {
		h := has(key)
		for _, t := range log {
			for _, w := range counting(t) {
				v := api.Version{Number: t.Number, Val: w.Val, Drop: w.Drop}
				switch {
				case w.Key == key && t.Number <= s.Mark:
					h.Versions = []api.Version{v}
				case w.Key == key && slices.Contains(s.Beyond, t.Number):
					h.Versions = append(h.Versions, v)
				}
			}
		}
		if len(h.Versions) > 0 && h.Versions[0].Drop && h.Versions[0].Number <= s.Mark {
			h.Versions = h.Versions[1:]
		}
		if len(h.Versions) > 0 {
			s.Held = append(s.Held, h)
		}
	}
	return s
}

// from: both go on from a checkpoint, if there is room for it.
func (b *both) from(s api.Saved) {
	b.t.Helper()
	for _, d := range []*disk.Disk{b.d, b.p.d} {
		x, e := slots.New(d, s)
		if e != api.OK && e != api.ErrSpace {
			b.t.Fatalf("slots.New(%+v) = %v", s, e)
		}
		for x.Left() > 0 {
			x.Step()
		}
	}
	b.crash(b.p.c, b.p.log)
}

// moved: so many things, by the dice; how often each was seen.
func moved(t testing.TB, seed int64, count, length, capacity int, seen map[string]int) {
	t.Helper()
	dice := rand.New(rand.NewSource(seed))
	b := newBoth(t, someConfig(dice), someLog(dice, length), capacity)
	if dice.Intn(2) == 0 {
		b.from(someSaved(dice, b.p.log))
	}
	for range count {
		seen[b.move(dice)]++
		b.alike()
		b.folds()
	}
}

// All promises, by dice: calls in any order are answered as the words say.
func TestAgainstPlainReplica(t *testing.T) {
	seen := map[string]int{}
	for seed := range int64(500) {
		moved(t, seed, 300, int(seed%40), []int{0, 60, 120, 4096}[seed%4], seen)
	}
	names := []string{"pick 9", "pick 11", "step 1", "step 10", "step 11", "feed 0", "feed 1", "feed 11", "feed 12", "call 0", "call 1", "call 11", "call 12", "cut 0", "close 0", "crash 0"}
	for kind := api.EvRead; kind <= api.EvEnd; kind++ {
		names = append(names, fmt.Sprint("event ", kind))
	}
	for _, name := range names {
		if seen[name] < 40 {
			t.Errorf("%s: seen %d times", name, seen[name])
		}
	}
}

// P0.1 to P0.3, P0.7: great logs, by schedules of many kinds, fed at once or as they go.
func TestGreatLogs(t *testing.T) {
	for seed := range int64(60) {
		dice := rand.New(rand.NewSource(seed))
		log := someLog(dice, 300)
		c := someConfig(dice)
		r := made(t, c, log, diskOf(t, 0))
		var calls []api.Call
		done, fedTo := 0, 0
		favourite := dice.Intn(c.Lanes + c.Shards + 2)
		for fedTo < len(log) || !r.Over() {
			if fedTo < len(log) && dice.Intn(20) == 0 {
				fedTo = min(fedTo+dice.Intn(40), len(log))
				is(t, "Feed", r.Feed(fedTo), api.OK)
			}
			if x := someCall(dice); dice.Intn(50) == 0 && x.Kind != api.CallSave {
				calls = append(calls, x)
				called(t, r, x, -len(calls))
			}
			mark := r.Mark()
			e, code := r.Step(favourite) // most often: so that others stand still for long
			if code != api.OK {
				e, code = r.Pick(dice.Int())
			}
			if code != api.OK {
				continue
			}
			done++
			if e.Mark < mark || e.Mark != r.Mark() || e.Kind == api.EvDispatch && e.Number > mark+c.Window {
				t.Fatalf("seed %d: %+v behind the mark %d", seed, e, mark)
			}
			if dice.Intn(200) == 0 {
				favourite = dice.Intn(c.Lanes + c.Shards + 2)
			}
		}
		want, _ := fold.Store(log, len(log))
		if n := takes(c, log, 0, nil, calls...); r.Mark() != len(log) || done != n || !slices.Equal(r.Store(), want) {
			t.Fatalf("seed %d: mark %d, %d steps of %d", seed, r.Mark(), done, n)
		}
	}
}

// life: a replica over the disk is driven by the dice, with Saves, till it dies or enough was done; what it installed.
func (b *both) life(dice *rand.Rand, many int) []int {
	b.t.Helper()
	var installed []int
	b.feed(b.p.mark + dice.Intn(len(b.p.log)-b.p.mark+1))
	for range many {
		if dice.Intn(25) == 0 {
			b.call(save(), true)
		}
		e, code := b.lazily(dice)
		if code == api.ErrCut {
			return installed
		}
		if e.Kind == api.EvServe && e.Number > 0 {
			installed = append(installed, e.Number)
		}
	}
	return installed
}

// P0.5, P0.6: lives one behind the other, cut anywhere, of any configurations: what was saved holds, what it had is not installed again nor asked for, and the end is the fold.
func TestCrashes(t *testing.T) {
	cuts, whole, beyond := 0, 0, 0
	for seed := range int64(400) {
		dice := rand.New(rand.NewSource(seed))
		log := someLog(dice, 4+dice.Intn(100))
		b := newBoth(t, someConfig(dice), log, 4096)
		least := 0
		for range 6 {
			b.crash(someConfig(dice), log)
			from, _, _, _, _ := slots.Newest(b.d)
			if b.r.Mark() != from.Mark || b.r.Mark() < least {
				t.Fatalf("seed %d: begins at %d, saved %d", seed, b.r.Mark(), least)
			}
			b.folds()
			beyond += len(from.Beyond)
			b.cut(dice.Intn(30))
			for _, n := range b.life(dice, 20+dice.Intn(200)) {
				if n <= from.Mark || slices.Contains(from.Beyond, n) {
					t.Fatalf("seed %d: %d is installed again", seed, n)
				}
			}
			b.alike()
			b.folds()
			if l := b.s.Asked(); len(l) > 0 && l[0] != from.Mark+1 {
				t.Fatalf("seed %d: asked for %v", seed, l)
			}
			for n := range b.p.calls {
				switch a, ok := b.r.Answer(-n - 1); {
				case ok && a.Code == api.OK:
					least = max(least, a.Mark)
					whole++
				case ok && a.Code == api.ErrCut:
					cuts++
				case ok:
					t.Fatalf("seed %d: %+v", seed, a)
				}
			}
		}
		b.crash(someConfig(dice), log)
		from, _, _, _, _ := slots.Newest(b.d)
		b.feed(len(log))
		done := 0
		for {
			if _, e := b.pick(dice.Int()); e != api.OK {
				break
			}
			done++
		}
		b.ended(done, takes(b.p.c, log, from.Mark, from.Beyond))
		b.alike()
		b.folds()
	}
	if cuts < 300 || whole < 300 || beyond < 300 {
		t.Errorf("%d cuts, %d whole, %d beyond", cuts, whole, beyond)
	}
}

// P0.5: at each moment of a schedule a Save is begun, and cut behind each number of raw writes: what was saved ahead holds, and the end is the fold.
func TestCutAnywhere(t *testing.T) {
	c, log := like(2, 2, 4, 2), logT()
	dice := rand.New(rand.NewSource(20))
	whole := takes(c, log, 0, nil)
	for range 20 {
		var picks []int
		for range whole {
			picks = append(picks, dice.Int())
		}
		for begun := range whole + 1 {
			for cut, saves := 0, false; !saves; cut++ {
				b := newBoth(t, c, log, 4096)
				b.feed(len(log))
				for _, n := range picks[:begun] {
					b.pick(n)
				}
				mark := b.r.Mark()
				b.call(save(), true)
				b.step(-1)
				b.cut(cut)
				for _, n := range append(picks[begun:], make([]int, 60)...) {
					b.pick(n)
				}
				a, _ := b.r.Answer(-1)
				saves = a.Code == api.OK
				if a.Mark != mark || !saves && a.Code != api.ErrCut || cut > 9 {
					t.Fatalf("begun behind %d, cut behind %d: %+v", begun, cut, a)
				}
				b.crash(c, log)
				if got := b.r.Mark(); saves && got != mark || !saves && got != 0 {
					t.Fatalf("begun behind %d, cut behind %d: goes on from %d", begun, cut, got)
				}
				b.folds()
				b.feed(len(log))
				all(t, b.r)
				storeIs(t, b.r, "a", "3")
			}
		}
	}
}

// P0.3: what a Save takes besides: its raw writes.
func TestStepsOfASave(t *testing.T) {
	for shards := 1; shards <= api.MaxShards; shards++ {
		d := diskOf(t, 4096)
		r := made(t, like(1, shards, 4, 1), logT(), d)
		is(t, "Feed", r.Feed(3), api.OK)
		called(t, r, save(), -1)
		n := 0
		for seed := 0; !r.Over(); seed++ {
			r.Pick(seed * 7919)
			n++
		}
		if want := 23 + 2 + 2*shards + d.Writes(); n != want || d.Writes() < 2 {
			t.Errorf("%d shards: %d steps, want %d", shards, n, want)
		}
	}
}

// The greatest log, with the least window and the greatest one.
func TestTheGreatestLog(t *testing.T) {
	log := make([]api.Txn, api.MaxLog)
	for i := range log {
		log[i] = api.Txn{Number: i + 1, Writes: ws(put(strconv.Itoa(i%1000), strconv.Itoa(i)))}
	}
	for _, c := range []api.Config{like(1, 1, 1, 1), like(16, 16, 64, 16)} {
		d := diskOf(t, api.MaxDisk)
		r := made(t, c, log, d)
		is(t, "Feed", r.Feed(api.MaxLog+1), api.ErrArg)
		is(t, "Feed", r.Feed(api.MaxLog), api.OK)
		if n := all(t, r); n != 7*api.MaxLog {
			t.Errorf("%+v: %d steps", c, n)
		}
		want, _ := fold.Store(log, len(log))
		if !slices.Equal(r.Store(), want) || len(want) != 1000 {
			t.Errorf("%+v: not the fold", c)
		}
		called(t, r, collect(), -1)
		called(t, r, save(), -2)
		all(t, r)
		answerIs(t, r, -1, api.Answer{Mark: api.MaxLog, OK: true, Count: api.MaxLog - 1000})
		x := made(t, c, log, d)
		markIs(t, x, api.MaxLog)
		if !slices.Equal(x.Store(), want) {
			t.Errorf("%+v: not the fold behind a crash", c)
		}
	}
}

// P20.7, P0.5: a store of more keys than chapter 18 takes again. No word refuses to save it; whatever becomes of that, the end is the fold.
func TestMoreKeysThanACheckpointHas(t *testing.T) {
	log := make([]api.Txn, api.MaxLog/api.MaxWrites+1)
	for i := range log {
		log[i].Number = i + 1
		for n := range api.MaxWrites {
			log[i].Writes = append(log[i].Writes, put(strconv.Itoa(i*api.MaxWrites+n), "v"))
		}
	}
	d := diskOf(t, api.MaxDisk)
	r := made(t, like(2, 4, 64, 16), log, d)
	last := len(log)
	for n, to := range []int{last - 1, last} { // MaxLog keys, and then more
		is(t, "Feed", r.Feed(to), api.OK)
		all(t, r)
		called(t, r, save(), -n-1)
		all(t, r)
		answerIs(t, r, -n-1, api.Answer{Mark: to, OK: true})
		x := made(t, one(), log, d)
		if m := x.Mark(); m < last-1 {
			t.Errorf("goes on from %d", m)
		}
		is(t, "Feed", x.Feed(last), api.OK)
		all(t, x)
		if want, _ := fold.Store(log, last); !slices.Equal(x.Store(), want) {
			t.Error("not the fold")
		}
	}
}

// FuzzReplica holds a replica against the model, by dice that a seed throws.
func FuzzReplica(f *testing.F) {
	f.Add(int64(1), 200, 10, 4096)
	f.Add(int64(2), 200, 70, 60)
	f.Fuzz(func(t *testing.T, seed int64, count, length, capacity int) {
		if count > 400 || length < 0 || length > 100 || capacity < 0 || capacity > 1<<16 {
			return
		}
		moved(t, seed, count, length, capacity, map[string]int{})
	})
}

// FuzzSchedule holds a replica against the model, by a schedule that bytes tell; it ends at the fold.
func FuzzSchedule(f *testing.F) {
	f.Add([]byte{1, 1, 3, 0}, []byte{1, 2, 3, 4, 9, 9}, []byte{0, 1, 2, 3, 200, 4, 5, 210, 6, 255})
	f.Add([]byte{0, 0, 0, 0}, []byte{7, 7, 7, 255, 7}, []byte{240, 250, 1, 1, 1})
	f.Fuzz(func(t *testing.T, shape, writes, moves []byte) {
		if len(shape) < 4 || len(writes) > 200 || len(moves) > 400 {
			return
		}
		log := logOf(writes)
		b := newBoth(t, like(1+int(shape[0]%4), 1+int(shape[1]%4), 1+int(shape[2]%8), 1+int(shape[3]%3)), log, 4096)
		b.feed(len(log))
		for _, m := range moves {
			switch {
			case m < 220:
				b.pick(int(m))
			case m < 250:
				kinds := []api.Call{get("A"), get("b"), scan("", ""), scan("a", "b"), collect(), save()}
				b.call(kinds[int(m)%len(kinds)], true)
			case m < 254:
				b.cut(int(m) - 250)
			default:
				b.crash(b.p.c, log)
				b.feed(len(log))
			}
			b.alike()
		}
		b.crash(b.p.c, log)
		b.feed(len(log))
		all(t, b.r)
		want, _ := fold.Store(log, len(log))
		if !slices.Equal(b.r.Store(), want) {
			t.Fatalf("the end: %v, want %v", b.r.Store(), want)
		}
	})
}

// logOf: a log that bytes tell: each is a write, and some of them end a transaction.
func logOf(b []byte) []api.Txn {
	l := [][]api.Write{nil}
	for _, x := range b {
		w := put(someKeys()[int(x)%6], strconv.Itoa(len(l)))
		if x/6%4 == 0 {
			w = drop(w.Key)
		}
		last := len(l) - 1
		l[last] = append(l[last], w)
		if x >= 128 || len(l[last]) == api.MaxWrites {
			l = append(l, nil)
		}
	}
	return numbered(l...)
}
