package plan_test

import (
	"fmt"
	"math/rand"
	"slices"
	"strconv"
	"testing"

	"towpath/api"
	"towpath/plan"
)

// long: a log of so many transactions without writes: 5 steps each.
func long(length int) []api.Txn {
	l := make([]api.Txn, length)
	for i := range l {
		l[i].Number = i + 1
	}
	return l
}

// P23.2: a plan of just MaxPlan steps is told, one more is not.
func TestTheLongestSerial(t *testing.T) {
	l := long(13106) // 65530 steps
	l[13000].Writes = ws(put("a", "1"), put("b", "2"), put("a", "3"), drop("c"))
	for _, c := range []api.Config{like(1, 1, 1, 1), like(16, 16, 64, 16)} {
		if p := serial(t, c, l); len(p) != api.MaxPlan {
			t.Errorf("%d steps", len(p))
		}
	}
	l = long(13107) // 65535 steps
	serial(t, like(2, 2, 4, 1), l)
	l[0].Writes = ws(put("a", "1"))
	noSerial(t, like(2, 2, 4, 1), l, api.ErrLimit)
	noSerial(t, like(2, 2, 4, 1), long(13108), api.ErrLimit)
	noSerial(t, like(2, 2, 4, 1), long(api.MaxLog), api.ErrLimit)
}

// P23.1: the steps of all up to j are held against MaxPlan, though the plan has less of them; what is behind j is not.
func TestTheLongestApart(t *testing.T) {
	c := like(2, 2, 64, 1)
	l := long(api.MaxLog)
	apart(t, c, l, 1, 2)
	apart(t, c, l, 13106, 13107)
	apart(t, c, l, 13106-62, 13107)
	noPair(t, c, l, 13107, 13108, api.ErrLimit)
	noPair(t, c, l, 13106, 13108, api.ErrLimit)
	noPair(t, c, l, api.MaxLog-1, api.MaxLog, api.ErrLimit)
	l[13105].Writes = ws(put("a", "1"), put("b", "2"), put("c", "3"))
	apart(t, c, l, 13105, 13106) // 65536 steps
	apart(t, c, l, 13060, 13106)
	noPair(t, c, l, 13105, 13107, api.ErrLimit)
	l[13105].Writes = append(l[13105].Writes, put("d", "4"))
	noPair(t, c, l, 13105, 13106, api.ErrLimit)
	l[13105].Writes[3].Key = "a"
	apart(t, c, l, 13105, 13106)
	noPair(t, c, append(l, api.Txn{Number: api.MaxLog + 1}), 1, 2, api.ErrArg)
}

// stateOf: what events lead to: of each task what it did, and of each line in what order it was filled. Two schedules with the same have led to the same state.
func stateOf(events []api.Event) string {
	tasks, lines := map[int][]api.Event{}, map[string][]int{}
	for _, e := range events {
		tasks[e.Task] = append(tasks[e.Task], e)
		line := ""
		switch e.Kind {
		case api.EvSend:
			line = fmt.Sprint("the queue ", e.Shard)
		case api.EvDispatch, api.EvGate:
			line = "the line"
		case api.EvDone:
			line = "the gate's line"
		}
		lines[line] = append(lines[line], e.Number)
	}
	delete(lines, "")
	return fmt.Sprint(tasks, lines)
}

// everyPair: all schedules: which two are both held at some moment of some of them.
func everyPair(t *testing.T, c api.Config, l []api.Txn) map[[2]int]int {
	t.Helper()
	seen, pairs := map[string]struct{}{}, map[[2]int]int{}
	ways := [][]int{nil}
	for len(ways) > 0 {
		path := ways[len(ways)-1]
		ways = ways[:len(ways)-1]
		r := fed(t, c, l)
		var events []api.Event
		for _, task := range path {
			e, code := r.Step(task)
			if code != api.OK {
				t.Fatal(code)
			}
			events = append(events, e)
		}
		state := stateOf(events)
		if _, ok := seen[state]; ok {
			continue
		}
		seen[state] = struct{}{}
		for place, i := range r.Held() {
			for _, j := range r.Held()[place+1:] {
				pairs[[2]int{i, j}]++
			}
		}
		for _, task := range r.Ready() {
			ways = append(ways, append(slices.Clone(path), task))
		}
	}
	return pairs
}

// P0.4, P23.1: of small logs, there is a plan of just those two that some schedule has both held.
func TestEverySchedule(t *testing.T) {
	for _, x := range []struct {
		c api.Config
		l []api.Txn
	}{
		{like(2, 1, 4, 1), writing("a", "b")},
		{like(2, 2, 4, 1), writing("", "a", "")},
		{like(2, 1, 2, 1), writing("", "", "")},
		{like(2, 1, 1, 1), writing("", "", "a")},
		{like(2, 1, 4, 1), writing("a", "", "a")},
		{like(2, 1, 4, 1), writing("a", "a", "")},
		{like(2, 1, 3, 1), writing("", "a", "a")},
		{like(3, 1, 3, 1), writing("a", "a", "")},
	} {
		pairs := everyPair(t, x.c, x.l)
		for i := 1; i <= len(x.l); i++ {
			for j := i + 1; j <= len(x.l); j++ {
				_, code := plan.Apart(x.c, x.l, i, j)
				if is := pairs[[2]int{i, j}] > 0; is != (code == api.OK) {
					t.Errorf("%+v: %d and %d: %v, but %v", x, i, j, is, code)
				}
			}
		}
	}
}

// oneOf: one of these, by the dice.
func oneOf[T any](dice *rand.Rand, l ...T) T { return l[dice.Intn(len(l))] }

// someLog: of so many transactions, by the dice: few keys, or many.
func someLog(dice *rand.Rand, length int) []api.Txn {
	keys := []string{"A", "a", "ab", "b", "\xff"}
	for n := range dice.Intn(60) {
		keys = append(keys, "k"+strconv.Itoa(n))
	}
	most := 1 + dice.Intn(4)
	l := make([][]api.Write, length)
	for i := range l {
		for range dice.Intn(most + 1) {
			w := drop(oneOf(dice, keys...))
			if dice.Intn(3) > 0 {
				w = put(w.Key, strconv.Itoa(i+1))
			}
			l[i] = append(l[i], w)
		}
	}
	return numbered(l...)
}

// someConfig: small ones mostly, of one lane seldom.
func someConfig(dice *rand.Rand) api.Config {
	if dice.Intn(4) == 0 {
		return like(1+dice.Intn(16), 1+dice.Intn(16), 1+dice.Intn(64), 1+dice.Intn(16))
	}
	return like(oneOf(dice, 1, 2, 2, 2, 3, 4), 1+dice.Intn(3), 1+dice.Intn(12), 1+dice.Intn(2))
}

// meet: have two transactions a key in common?
func meet(a, b api.Txn) bool {
	return slices.ContainsFunc(a.Writes, func(x api.Write) bool {
		return slices.ContainsFunc(b.Writes, func(y api.Write) bool { return x.Key == y.Key })
	})
}

// chained, by the words: neighbours, or a neighbour that stands between is chained to the other.
func chained(l []api.Txn, i, j int) bool {
	from := make([]bool, len(l)+1)
	from[i] = true
	for b := i + 1; b <= j; b++ {
		for a := i; a < b; a++ {
			from[b] = from[b] || from[a] && meet(l[a-1], l[b-1])
		}
	}
	return from[j]
}

// fits: the answer for a pair is as the words have it; which it is.
func fits(t testing.TB, c api.Config, l []api.Txn, i, j int) api.Errno {
	t.Helper()
	want := api.OK
	switch {
	case i < 1 || i >= j || j > len(l) || c.Lanes == 1:
		want = api.ErrArg
	case j-i >= c.Window:
		want = api.ErrOrder
	case chained(l, i, j):
		want = api.ErrChain
	default:
		apart(t, c, l, i, j)
		return api.OK
	}
	noPair(t, c, l, i, j, want)
	return want
}

// P23.1, P23.2: by the dice.
func TestByTheDice(t *testing.T) {
	codes := map[api.Errno]int{}
	for seed := range int64(600) {
		dice := rand.New(rand.NewSource(seed))
		c, l := someConfig(dice), someLog(dice, dice.Intn(50))
		for range 8 {
			i := dice.Intn(len(l) + 1)
			codes[fits(t, c, l, i, i+dice.Intn(10))]++
		}
		serial(t, c, l)
	}
	for _, code := range []api.Errno{api.OK, api.ErrArg, api.ErrOrder, api.ErrChain} {
		if codes[code] < 100 {
			t.Errorf("%v: %d times", code, codes[code])
		}
	}
}

// P23.1: every pair of logs that the widest window spans.
func TestEveryPair(t *testing.T) {
	for seed := range int64(4) {
		dice := rand.New(rand.NewSource(seed))
		l := someLog(dice, 70)
		for i := 1; i <= len(l); i++ {
			for j := i + 1; j <= len(l); j++ {
				fits(t, like(2, 1+dice.Intn(4), api.MaxWindow, 1), l, i, j)
			}
		}
	}
}

// FuzzApart: any configuration, any two, and a log whose transactions' keys are a text's bytes, parted by commas.
func FuzzApart(f *testing.F) {
	f.Add(2, 1, 4, 1, "a,b,ab", 1, 2)
	f.Add(3, 2, 8, 2, "a,ab,c,,bd,c", 1, 6)
	f.Fuzz(func(t *testing.T, lanes, shards, window, queue int, text string, i, j int) {
		c := like(lanes, shards, window, queue)
		if len(text) > 200 {
			return
		}
		l := []api.Txn{{Number: 1}}
		for n := range len(text) {
			if text[n] == ',' {
				l = append(l, api.Txn{Number: len(l) + 1})
				continue
			}
			x := &l[len(l)-1]
			x.Writes = append(x.Writes, put(text[n:n+1], ""))
		}
		may := !slices.ContainsFunc(l, func(x api.Txn) bool { return len(x.Writes) > api.MaxWrites })
		good := func(n, most int) bool { return 1 <= n && n <= most }
		switch {
		case !good(lanes, 16) || !good(shards, 16) || !good(window, 64) || !good(queue, 16):
			noPair(t, c, l, i, j, api.ErrConfig)
			noSerial(t, c, l, api.ErrConfig)
		case !may:
			noPair(t, c, l, i, j, api.ErrArg)
			noSerial(t, c, l, api.ErrArg)
		default:
			fits(t, c, l, i, j)
			serial(t, c, l)
		}
	})
}
