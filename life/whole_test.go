package life_test

import (
	"math"
	"math/rand"
	"slices"
	"strconv"
	"testing"

	"towpath/api"
	"towpath/disk"
	"towpath/fold"
	"towpath/logfile"
	"towpath/replica"
	"towpath/slots"
)

// seen counts what came up in lives: Saves that were OK, disks that were cut, what checkpoints had beyond their marks, replicas that went on from a mark, runs that came to their end.
type seen struct{ saved, cut, beyond, onward, ended int }

// teller goes through a life by the words, step by step, and looks at all that Live does not tell.
type teller struct {
	t     testing.TB
	c     api.Config
	l     []api.Txn
	d     *disk.Disk
	r     *replica.Replica
	s     *logfile.Source
	calls []api.Call // those that this replica took
	from  api.Saved  // what the newest checkpoint said as it began
	least int        // the greatest mark of a Save that was OK, in any run
	seen  *seen
}

// begin: a replica over a new source and the disk; its mark. What was saved holds, and can be read before any record is fed. (P0.6)
func (x *teller) begin(cut int) int {
	x.t.Helper()
	if x.d.Dead() {
		x.d.Mend()
	}
	x.d.Cut(cut)
	x.from, _, _, _, _ = slots.Newest(x.d)
	var e, wrong api.Errno
	x.s, e = logfile.New(x.l)
	x.r, wrong = replica.New(x.c, x.s, x.d)
	x.calls = nil
	mark := x.r.Mark()
	if e != api.OK || wrong != api.OK || mark != x.from.Mark || mark < x.least {
		x.t.Fatalf("%v, %v: begins at %d, the checkpoint's mark is %d, saved was %d", e, wrong, mark, x.from.Mark, x.least)
	}
	x.seen.beyond += len(x.from.Beyond)
	if mark > 0 {
		x.seen.onward++
	}
	x.folds()
	return mark
}

// folds: the store is the fold up to the mark.
func (x *teller) folds() {
	x.t.Helper()
	if want, _ := fold.Store(x.l, x.r.Mark()); !slices.Equal(x.r.Store(), want) {
		x.t.Fatalf("the store at %d: %s, want %s", x.r.Mark(), brief(x.r.Store()), brief(want))
	}
}

// pick: a step. What the checkpoint had is not installed again. (P0.5)
func (x *teller) pick(n int) api.Errno {
	x.t.Helper()
	e, code := x.r.Pick(n)
	if e.Kind == api.EvServe && e.Number > 0 && (e.Number <= x.from.Mark || slices.Contains(x.from.Beyond, e.Number)) {
		x.t.Fatalf("%d is installed again, behind %s", e.Number, brief(x.from))
	}
	return code
}

// call: taken or refused.
func (x *teller) call(k api.Call) {
	if _, e := x.r.Call(k); e == api.OK {
		x.calls = append(x.calls, k)
	}
}

// leave: the replica is left as it stands. It has asked for no record up to the mark at which it began, and a Save that was OK holds from now on. (P0.6)
func (x *teller) leave() {
	x.t.Helper()
	x.folds()
	if l := x.s.Asked(); len(l) > 0 && l[0] != x.from.Mark+1 {
		x.t.Fatalf("asked for %s behind the mark %d", brief(l), x.from.Mark)
	}
	for n, k := range x.calls {
		if a, ok := x.r.Answer(-n - 1); ok && a.Code == api.OK && k.Kind == api.CallSave {
			x.least = max(x.least, a.Mark)
			x.seen.saved++
		}
	}
	if x.d.Dead() {
		x.seen.cut++
	}
	if x.r.Over() {
		x.seen.ended++
	}
}

// told: at which marks the runs must begin, by the words.
func told(t testing.TB, c api.Config, l []api.Txn, capacity int, lives []api.Run, s *seen) []int {
	t.Helper()
	d, e := disk.New(capacity)
	if e != api.OK {
		t.Fatal(e)
	}
	x := &teller{t: t, c: c, l: l, d: d, seen: s}
	var marks []int
	for _, y := range lives {
		marks = append(marks, x.begin(y.Cut))
		x.r.Feed(y.Fed)
		for _, n := range y.Picks {
			x.pick(n)
		}
		for _, k := range y.Calls {
			x.call(k)
		}
		for _, n := range y.More {
			x.pick(n)
		}
		x.leave()
	}
	marks = append(marks, x.begin(-1))
	x.r.Feed(len(l))
	for x.pick(0) == api.OK {
	}
	x.leave()
	if x.r.Mark() != len(l) {
		t.Fatalf("ends at %d", x.r.Mark())
	}
	return marks
}

// asTold: a life is as the words have it; its marks. (P24.1, P24.2)
func asTold(t testing.TB, c api.Config, l []api.Txn, capacity int, lives []api.Run, s *seen) []int {
	t.Helper()
	marks := live(t, c, l, capacity, lives)
	if want := told(t, c, l, capacity, lives, s); !slices.Equal(marks, want) {
		t.Fatalf("Live(%v, %s, %d, %s): began at %v, want %v", c, brief(l), capacity, brief(lives), marks, want)
	}
	return marks
}

// oneOf: one of these, by the dice.
func oneOf[T any](dice *rand.Rand, l ...T) T { return l[dice.Intn(len(l))] }

// someKeys: few, so that they meet; one is the beginning of another, one is above all ASCII.
func someKeys() []string { return []string{"A", "a", "ab", "b", "c", "\xff"} }

// someLog: of so many transactions, by the dice.
func someLog(dice *rand.Rand, length int) []api.Txn {
	l := make([][]api.Write, length)
	keys := someKeys()[:1+dice.Intn(6)]
	if dice.Intn(2) == 0 {
		for n := range 20 {
			keys = append(keys, "k"+strconv.Itoa(n))
		}
	}
	for i := range l {
		for range dice.Intn(4) {
			w := drop(oneOf(dice, keys...))
			if dice.Intn(3) > 0 {
				w = put(w.Key, strconv.Itoa(i+1))
			}
			l[i] = append(l[i], w)
		}
	}
	return numbered(l...)
}

// someConfig: small ones mostly.
func someConfig(dice *rand.Rand) api.Config {
	if dice.Intn(8) == 0 {
		return like(1+dice.Intn(16), 1+dice.Intn(16), 1+dice.Intn(64), 1+dice.Intn(16))
	}
	return like(1+dice.Intn(3), 1+dice.Intn(3), 1+dice.Intn(8), 1+dice.Intn(2))
}

// someCalls: by the dice, Saves mostly; some may not be.
func someCalls(dice *rand.Rand) []api.Call {
	var l []api.Call
	for range dice.Intn(4) {
		key := oneOf(dice, someKeys()...)
		l = append(l, oneOf(dice, save(), save(), save(), get(key), scan(key, ""), scan("", key), collect(), api.Call{}, get(""), api.Call{Kind: 99}))
	}
	return l
}

// somePicks: by the dice, at most so many: any task, or mostly the first one or the last one, so that a lane falls behind and much is beyond the mark.
func somePicks(dice *rand.Rand, most int) []int {
	l := make([]int, dice.Intn(most+1))
	mostly, seldom := oneOf(dice, 0, -1, -1, -2), oneOf(dice, 1, 5, 12, 1000)
	for n := range l {
		l[n] = mostly
		if dice.Intn(seldom) == 0 {
			l[n] = dice.Int() - dice.Int()
		}
	}
	return l
}

// someRun of a log of that length, by the dice.
func someRun(dice *rand.Rand, length int) api.Run {
	x := api.Run{Fed: length, Picks: somePicks(dice, 3*length+20), Calls: someCalls(dice), More: somePicks(dice, 200), Cut: dice.Intn(7) - 1}
	if dice.Intn(2) == 0 {
		x.Fed = dice.Intn(length + 1)
	}
	if dice.Intn(20) == 0 {
		x.Fed = oneOf(dice, -1, length+1, math.MinInt, math.MaxInt)
	}
	return x
}

// someLife: so many runs at most, by the dice.
func someLife(dice *rand.Rand, most, length int) []api.Run {
	l := make([]api.Run, dice.Intn(most+1))
	for n := range l {
		l[n] = someRun(dice, length)
	}
	return l
}

// P24.1, P24.2, P0.5, P0.6: by the dice.
func TestByTheDice(t *testing.T) {
	var s seen
	for seed := range int64(2000) {
		dice := rand.New(rand.NewSource(seed))
		l := someLog(dice, dice.Intn(60))
		asTold(t, someConfig(dice), l, oneOf(dice, 0, 30, 60, 150, 4096, 4096, 4096), someLife(dice, 6, len(l)), &s)
	}
	if s.saved < 400 || s.cut < 400 || s.beyond < 200 || s.onward < 400 || s.ended < 400 {
		t.Errorf("seen: %+v", s)
	}
}

// P24.2: long lives: the marks go up, and never down.
func TestLongLives(t *testing.T) {
	var s seen
	for seed := range int64(20) {
		dice := rand.New(rand.NewSource(seed))
		l := someLog(dice, 200)
		lives := make([]api.Run, 60)
		for n := range lives {
			lives[n] = api.Run{Fed: oneOf(dice, len(l), dice.Intn(len(l))), Picks: somePicks(dice, 150), Calls: calls(save(), collect(), save()), More: somePicks(dice, 150), Cut: dice.Intn(40) - 1}
		}
		marks := asTold(t, someConfig(dice), l, 8192, lives, &s)
		if last := marks[len(marks)-1]; last < len(l)/4 {
			t.Errorf("the last one began at %d", last)
		}
	}
	if s.cut < 100 || s.beyond < 100 {
		t.Errorf("seen: %+v", s)
	}
}

// P0.5: the log T, by schedules of several kinds: a Save is begun behind each number of steps, left behind each number of others, and cut behind each number of raw writes; so is another one, over what the first one has left.
func TestCutAnywhere(t *testing.T) {
	dice := rand.New(rand.NewSource(24))
	var s seen
	for _, c := range []api.Config{one(), like(2, 2, 4, 1), like(3, 1, 2, 2)} {
		for _, picks := range [][]int{times(24, 0), times(24, -1), append([]int{0, 0, 1, 0, 0}, times(19, -1)...), dice.Perm(24)} {
			for ahead := range picks {
				for _, more := range []int{0, 1, 3, 5, 6, 7, 12} {
					for cut := -1; cut < 3; cut++ {
						x := api.Run{Fed: 3, Picks: picks[:ahead], Calls: calls(save()), More: times(more, -1), Cut: cut}
						asTold(t, c, logT(), 4096, runs(x), &s)
						asTold(t, c, logT(), 4096, runs(rising(2, 14, 30, -1, save()), x, rising(3, 6, 30, cut, save())), &s)
					}
				}
			}
		}
	}
	if s.saved < 1000 || s.cut < 1000 || s.beyond < 30 {
		t.Errorf("seen: %+v", s)
	}
}

// P0.5: a checkpoint of several blocks is cut behind each number of raw writes: the one ahead stays.
func TestCutOfManyBlocks(t *testing.T) {
	var writes []api.Write
	for n := range api.MaxWrites {
		writes = append(writes, put("key "+strconv.Itoa(n), strconv.Itoa(n)))
	}
	l := numbered(writes, writes[3:], writes[:9], ws(put("a", "")))
	c := like(2, 3, 4, 2)
	whole := 0
	for cut := range 20 {
		first := api.Run{Fed: 2, Picks: times(400, 0), Calls: calls(save()), More: times(100, 0), Cut: -1}
		second := first
		second.Fed, second.Cut = 4, cut
		marks := live(t, c, l, 1<<12, runs(first, second, second))
		switch {
		case !slices.Equal(marks[:2], []int{0, 2}) || marks[2] != marks[3] || marks[2] != 2 && marks[2] != 4:
			t.Fatalf("cut behind %d: %v", cut, marks)
		case marks[2] == 4:
			whole++
		case whole > 0:
			t.Fatalf("cut behind %d: %v, and a lesser cut was none", cut, marks)
		}
	}
	if whole < 2 || whole > 12 {
		t.Errorf("whole: %d times", whole)
	}
}

// R5: lives have nothing in common: whatever lived ahead, the answer is the same.
func TestLivesApart(t *testing.T) {
	dice := rand.New(rand.NewSource(5))
	var s seen
	l := someLog(dice, 20)
	c := like(2, 2, 4, 2)
	lives := make([][]api.Run, 30)
	marks := make([][]int, len(lives))
	for n := range lives {
		lives[n] = someLife(dice, 5, len(l))
		marks[n] = asTold(t, c, l, 4096, lives[n], &s)
	}
	for range 200 {
		n := dice.Intn(len(lives))
		if again := live(t, c, l, 4096, lives[n]); !slices.Equal(again, marks[n]) {
			t.Fatalf("%v, then %v", marks[n], again)
		}
	}
}

// R1: much of all: runs, picks, calls.
func TestMuch(t *testing.T) {
	live(t, one(), logT(), 4096, times0(20000))
	x := make([]api.Run, 2000)
	for n := range x {
		x[n] = rising(3, n%25, 7, n%4-1, save())
	}
	if marks := live(t, one(), logT(), 4096, x); marks[2000] != 3 {
		t.Errorf("ends at %d", marks[2000])
	}
	y := api.Run{Fed: 3, Picks: make([]int, 1<<20), Calls: slices.Repeat(calls(save(), get("a"), api.Call{}), 1<<16), More: make([]int, 1<<20), Cut: -1}
	marksAre(t, like(16, 16, 64, 16), runs(y, y), 0, 3, 3)
	y.Cut = 0
	marksAre(t, like(16, 16, 64, 16), runs(y, y), 0, 0, 0)
}

// The greatest log, over the greatest disk.
func TestTheGreatestLog(t *testing.T) {
	l := make([]api.Txn, api.MaxLog)
	for i := range l {
		l[i] = api.Txn{Number: i + 1, Writes: ws(put(strconv.Itoa(i%5000), strconv.Itoa(i)))}
	}
	x := api.Run{Fed: api.MaxLog / 2, Picks: times(1<<18, 0), Calls: calls(save()), More: times(4000, 0), Cut: -1}
	cut := x
	cut.Fed, cut.Picks, cut.Cut = api.MaxLog, times(9000, 0), 700
	for _, c := range []api.Config{like(1, 1, 1, 1), like(16, 16, 64, 16)} {
		if marks := live(t, c, l, api.MaxDisk, runs(x, cut)); !slices.Equal(marks, []int{0, api.MaxLog / 2, api.MaxLog / 2}) {
			t.Errorf("%v: %v", c, marks)
		}
		if marks := live(t, c, l, 1<<16, runs(x)); marks[1] != 0 {
			t.Errorf("%v: a disk too small: %v", c, marks)
		}
	}
}

// FuzzLive: lives by dice that a seed throws.
func FuzzLive(f *testing.F) {
	f.Add(int64(1), 10, 4096, 3)
	f.Add(int64(2), 40, 60, 9)
	f.Fuzz(func(t *testing.T, seed int64, length, capacity, most int) {
		if length < 0 || length > 60 || capacity < 0 || capacity > 1<<16 || most < 0 || most > 12 {
			return
		}
		dice := rand.New(rand.NewSource(seed))
		l := someLog(dice, length)
		asTold(t, someConfig(dice), l, capacity, someLife(dice, most, length), &seen{})
	})
}

// FuzzRuns: runs that bytes tell: each is a pick, a call, or the end of a run, with a cut.
func FuzzRuns(f *testing.F) {
	f.Add(1, 1, 4, 1, 3, []byte{1, 2, 3, 210, 9, 9, 9, 9, 250, 0, 0, 0, 211, 0, 0, 252, 7})
	f.Add(3, 2, 2, 2, 9, []byte{255, 0, 0, 250, 128, 210, 128, 128, 128, 255})
	f.Fuzz(func(t *testing.T, lanes, shards, window, queue, fed int, moves []byte) {
		c := like(lanes, shards, window, queue)
		l := append(logT(), api.Txn{Number: 4}, api.Txn{Number: 5, Writes: ws(put("a", "5"), put("c", "5"))}, api.Txn{Number: 6, Writes: ws(drop("c"), put("b", "6"))})
		good := func(n, most int) bool { return 1 <= n && n <= most }
		if !good(lanes, 16) || !good(shards, 16) || !good(window, 64) || !good(queue, 16) {
			refused(t, c, l, 4096, nil, api.ErrConfig)
			return
		}
		if len(moves) > 500 {
			return
		}
		lives := runs(api.Run{Fed: fed, Cut: -1})
		for _, m := range moves {
			x := &lives[len(lives)-1]
			switch {
			case m >= 240: // the end
				lives = append(lives, api.Run{Fed: fed, Cut: int(m) - 241})
			case m >= 200:
				x.Calls = append(x.Calls, oneOf(rand.New(rand.NewSource(int64(m))), save(), save(), get("a"), scan("", ""), collect(), api.Call{}))
			case len(x.Calls) > 0:
				x.More = append(x.More, int(m)-100)
			default:
				x.Picks = append(x.Picks, int(m)-100)
			}
		}
		asTold(t, c, l, 4096, lives, &seen{})
	})
}
