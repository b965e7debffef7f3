package free_test

import (
	"math/rand"
	"runtime"
	"slices"
	"strconv"
	"sync"
	"testing"
	"testing/synctest"
	"time"

	"towpath/api"
	"towpath/free"
)

// oneOf: one of these, by the dice.
func oneOf[T any](dice *rand.Rand, l ...T) T { return l[dice.Intn(len(l))] }

// someKeys: few, so that they meet; one is the beginning of another, one is above all ASCII.
func someKeys() []string { return []string{"A", "a", "ab", "b", "c", "\xff"} }

// someLog: of so many transactions, by the dice.
func someLog(dice *rand.Rand, length int) []api.Txn {
	l := make([][]api.Write, length)
	keys := someKeys()[:1+dice.Intn(6)]
	if dice.Intn(2) == 0 {
		for n := range 20 {
			keys = append(keys, "k"+strconv.Itoa(n))
		}
	}
	for i := range l {
		for range dice.Intn(4) {
			w := drop(oneOf(dice, keys...))
			if dice.Intn(3) > 0 {
				w = put(w.Key, strconv.Itoa(i+1))
			}
			l[i] = append(l[i], w)
		}
	}
	return numbered(l...)
}

// someConfig: small ones mostly.
func someConfig(dice *rand.Rand) api.Config {
	if dice.Intn(4) == 0 {
		return like(1+dice.Intn(16), 1+dice.Intn(16), 1+dice.Intn(64), 1+dice.Intn(16))
	}
	return like(1+dice.Intn(3), 1+dice.Intn(3), 1+dice.Intn(8), 1+dice.Intn(2))
}

// someCalls: by the dice, as many as there may be at most.
func someCalls(dice *rand.Rand) []api.Call {
	l := make([]api.Call, dice.Intn(api.MaxCalls+1))
	for n := range l {
		key, end := oneOf(dice, someKeys()...), oneOf(dice, someKeys()...)
		l[n] = oneOf(dice, get(key), get(key), get("k1"), scan("", ""), scan(key, ""), scan("", end), scan(key, end), collect(), collect())
	}
	return l
}

// P25.1, P25.2, P0.9: by the dice. (Which marks come up hangs on how goroutines fall; that of so many calls not one begins amid a log would be strange all the same, and then little is tested.)
func TestByTheDice(t *testing.T) {
	between, gone := 0, 0
	for seed := range int64(2500) {
		dice := rand.New(rand.NewSource(seed))
		l := someLog(dice, dice.Intn(100))
		for _, a := range reads(t, someConfig(dice), l, someCalls(dice)) {
			gone += a.Count
			if a.Mark > 0 && a.Mark < len(l) {
				between++
			}
		}
	}
	t.Logf("%d calls began amid a log; %d versions went", between, gone)
	if between == 0 {
		t.Error("no call began amid a log")
	}
}

// P25.3: whatever hangs on how goroutines fall, the store does not.
func TestSameStoreAgain(t *testing.T) {
	dice := rand.New(rand.NewSource(25))
	for range 20 {
		l := someLog(dice, 60)
		var first []api.Entry
		for n := range 40 {
			store, e := free.Apply(someConfig(dice), l)
			if n == 0 {
				first = store
			}
			if e != api.OK || !slices.Equal(store, first) {
				t.Fatalf("%v, %v, then %v", e, first, store)
			}
		}
	}
}

// R5: runs beside one another share nothing but what they are handed.
func TestRunsBesideOneAnother(t *testing.T) {
	l := someLog(rand.New(rand.NewSource(1)), 80)
	calls := someCalls(rand.New(rand.NewSource(2)))
	var all sync.WaitGroup
	for n := range 16 {
		all.Go(func() {
			dice := rand.New(rand.NewSource(int64(n)))
			for range 20 {
				c := someConfig(dice)
				if store, _, e := free.Read(c, l, calls); e != api.OK || len(store) == 0 {
					t.Errorf("%v: %v, %v", c, store, e)
				}
			}
		})
	}
	all.Wait()
	reads(t, two(), l, calls)
}

// P25.4: when a call answers, no goroutine of it is left that waits for something: the bubble would not end.
func TestNoneWaitsBehindTheAnswer(t *testing.T) {
	for seed := range int64(300) {
		synctest.Test(t, func(t *testing.T) {
			dice := rand.New(rand.NewSource(seed))
			l := someLog(dice, dice.Intn(40))
			c, calls := someConfig(dice), someCalls(dice)
			reads(t, c, l, calls)
			applies(t, c, l)
			refused(t, c, l, []api.Call{save()}, api.ErrArg)
			refused(t, c, l, times(33, collect()), api.ErrFull)
		})
	}
}

// P25.4: nor one that goes on by itself.
func TestNoGoroutineStays(t *testing.T) {
	before := runtime.NumGoroutine()
	for seed := range int64(200) {
		dice := rand.New(rand.NewSource(seed))
		reads(t, like(16, 16, 64, 16), someLog(dice, dice.Intn(40)), someCalls(dice))
		refused(t, two(), nil, []api.Call{save()}, api.ErrArg)
	}
	for wait := time.Microsecond; runtime.NumGoroutine() > before; wait *= 2 { // what has ended may still be counted for a while
		if wait > time.Second {
			t.Fatalf("%d goroutines, %d before", runtime.NumGoroutine(), before)
		}
		time.Sleep(wait)
	}
}

// The greatest log, by the least and the greatest configurations, with all calls.
func TestTheGreatestLog(t *testing.T) {
	l := make([][]api.Write, api.MaxLog)
	for i := range l {
		l[i] = ws(put(strconv.Itoa(i%5000), strconv.Itoa(i)), drop("a"+strconv.Itoa(i%3)))
	}
	log := numbered(l...)
	for _, c := range []api.Config{like(1, 1, 1, 1), two(), like(16, 16, 64, 16)} {
		applies(t, c, log)
		reads(t, c, log, slices.Repeat([]api.Call{get("77"), scan("", ""), collect(), scan("4", "41")}, 8))
	}
}

// All transactions write the same keys, or none does; one writes as many as it may.
func TestChainsAndNone(t *testing.T) {
	wide := make([]api.Write, api.MaxWrites)
	for n := range wide {
		wide[n] = put("k"+strconv.Itoa(n), strconv.Itoa(n))
	}
	turned := slices.Clone(wide)
	slices.Reverse(turned)
	for n := range turned {
		turned[n] = drop(turned[n].Key)
	}
	for _, c := range []api.Config{like(1, 1, 1, 1), like(4, 1, 8, 1), like(1, 4, 8, 1), like(16, 16, 64, 1)} {
		same, none := make([][]api.Write, 200), make([][]api.Write, 2000)
		for n := range same {
			same[n] = [][]api.Write{wide, turned}[n%2]
		}
		for _, l := range [][]api.Txn{numbered(same...), numbered(same[:199]...), numbered(none...)} {
			applies(t, c, l)
			reads(t, c, l, slices.Repeat([]api.Call{get("k0"), collect(), scan("", ""), collect()}, 8))
		}
	}
}

// FuzzRead: logs, calls and configurations that bytes tell; some may not be.
func FuzzRead(f *testing.F) {
	f.Add(2, 2, 2, 1, []byte{1, 2, 3, 200, 4, 5, 200, 6, 200, 200}, []byte{1, 2, 3, 4})
	f.Add(16, 16, 64, 16, []byte{1, 200, 129, 200, 1, 1, 1, 200}, []byte{0, 3, 3, 3})
	f.Add(0, 1, 1, 1, []byte{}, []byte{9})
	f.Fuzz(func(t *testing.T, lanes, shards, window, queue int, log, asks []byte) {
		c := like(lanes, shards, window, queue)
		writes := [][]api.Write{nil}
		for _, b := range log[:min(len(log), 400)] {
			last := &writes[len(writes)-1]
			switch key := "k" + strconv.Itoa(int(b%16)); {
			case b >= 200 || len(*last) == api.MaxWrites:
				writes = append(writes, nil)
			case b >= 100:
				*last = append(*last, drop(key))
			default:
				*last = append(*last, put(key, strconv.Itoa(int(b))))
			}
		}
		l := numbered(writes...)
		var calls []api.Call
		want := api.OK
		if len(asks) > api.MaxCalls {
			want = api.ErrFull
		}
		for _, b := range asks {
			key := "k" + strconv.Itoa(int(b/8%16))
			calls = append(calls, []api.Call{get(key), scan("", ""), collect(), scan(key, ""), scan("", key), collect(), get(key), save()}[b%8])
			if b%8 == 7 {
				want = api.ErrArg
			}
		}
		good := func(n, most int) bool { return 1 <= n && n <= most }
		if !good(lanes, 16) || !good(shards, 16) || !good(window, 64) || !good(queue, 16) {
			want = api.ErrConfig
		}
		if want != api.OK {
			refused(t, c, l, calls, want)
			return
		}
		reads(t, c, l, calls)
	})
}
