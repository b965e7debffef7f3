package stat_test

import (
	"math/big"
	"math/rand"
	"slices"
	"testing"

	"towpath/api"
)

// mayBe: a configuration's bounds, as DOC.md says them.
func mayBe(c api.Config) bool {
	return !(c.Lanes < 1 || c.Lanes > 16 || c.Shards < 1 || c.Shards > 16 || c.Window < 1 || c.Window > 64 || c.Queue < 1 || c.Queue > 16)
}

// holds: does a lane hold one behind these events? As the chapter says it: the last one that tells of it is asked.
func holds(events []api.Event, lane int) bool {
	for i := len(events) - 1; i >= 0; i-- {
		if e := events[i]; e.Task == lane && (e.Kind == api.EvTake || e.Kind == api.EvDone) {
			return e.Kind == api.EvTake
		}
	}
	return false
}

// modelLanes: what the words say of Lanes, and how many hold one at the most.
func modelLanes(c api.Config, events []api.Event) (many []int, busy int) {
	many = make([]int, c.Lanes)
	for n := range events {
		now := 0
		for i := range many {
			if holds(events[:n+1], i+1) {
				many[i]++
				now++
			}
		}
		busy = max(busy, now)
	}
	return many, busy
}

// countOf: how many events there are of which that holds.
func countOf(events []api.Event, is func(api.Event) bool) int {
	n := 0
	for _, e := range events {
		if is(e) {
			n++
		}
	}
	return n
}

// modelLag: the greatest one of those that count, and of 0; told by numbers that never wrap round.
func modelLag(events []api.Event) int {
	lags := []int{0}
	for _, e := range events {
		n, mark := big.NewInt(int64(e.Number)), big.NewInt(int64(e.Mark))
		none, most := big.NewInt(0), big.NewInt(65536)
		if e.Kind == api.EvDispatch && n.Cmp(none) >= 0 && mark.Cmp(none) >= 0 && n.Cmp(most) <= 0 && mark.Cmp(most) <= 0 {
			lags = append(lags, int(new(big.Int).Sub(n, mark).Int64()))
		}
	}
	return slices.Max(lags)
}

// agrees: do both calls answer what the words say? What they answered, where the configuration may be.
func agrees(t testing.TB, c api.Config, events []api.Event) api.Stats {
	t.Helper()
	if !mayBe(c) {
		refused(t, c, events)
		return api.Stats{}
	}
	many, busy := modelLanes(c, events)
	want := api.Stats{
		Steps:    len(events),
		Installs: countOf(events, func(e api.Event) bool { return e.Kind == api.EvServe && e.Number > 0 }),
		Lag:      modelLag(events),
		Busy:     busy,
		Reads:    countOf(events, func(e api.Event) bool { return e.Kind == api.EvEnd }),
	}
	areStats(t, c, events, want)
	areLanes(t, c, events, many...)
	sumIsEnough(t, c, events)
	return want
}

// sumIsEnough: what P26.3 says of Busy and Lanes; it holds of any events.
func sumIsEnough(t testing.TB, c api.Config, events []api.Event) {
	t.Helper()
	busy, sum := of(t, c, events).Busy, 0
	for _, n := range lanes(t, c, events) {
		sum += n
	}
	if busy > c.Lanes || sum < busy {
		t.Errorf("%+v, %+v: Busy %d, the sum of Lanes %d", c, events, busy, sum)
	}
}

// oneOf: one of these, by the dice.
func oneOf[T any](dice *rand.Rand, l ...T) T { return l[dice.Intn(len(l))] }

// someInt: small ones mostly, so that they meet.
func someInt(dice *rand.Rand) int {
	if dice.Intn(8) == 0 {
		return oneOf(dice, anyInts()...)
	}
	return dice.Intn(12) - 3
}

// someEvent: of those that count mostly.
func someEvent(dice *rand.Rand) api.Event {
	e := api.Event{Task: someInt(dice), Number: someInt(dice), Shard: someInt(dice), Count: someInt(dice), Mark: someInt(dice)}
	e.Kind = oneOf(dice, append(kindsBut(), api.EvTake, api.EvTake, api.EvTake, api.EvDone, api.EvDone, api.EvDispatch, api.EvDispatch, api.EvServe, api.EvEnd)...)
	return e
}

// P26.1 to P26.3: any events, held against the words.
func TestCallsByTheDice(t *testing.T) {
	var all api.Stats
	bad, busiest := 0, 0
	for seed := range int64(3000) {
		dice := rand.New(rand.NewSource(seed))
		c := like(1+dice.Intn(5), 1, 4, 1)
		if dice.Intn(20) == 0 {
			c = like(dice.Intn(20), dice.Intn(20), dice.Intn(70), dice.Intn(20))
		}
		events := make([]api.Event, dice.Intn(60))
		for i := range events {
			events[i] = someEvent(dice)
		}
		s := agrees(t, c, events)
		if t.Failed() {
			t.FailNow()
		}
		if !mayBe(c) {
			bad++
		}
		all.Installs += s.Installs
		all.Reads += s.Reads
		if s.Lag > 0 && s.Lag < 20 {
			all.Lag++
		}
		busiest = max(busiest, s.Busy)
	}
	if bad < 20 || busiest < 4 || all.Installs < 1000 || all.Reads < 1000 || all.Lag < 500 {
		t.Errorf("%d bad, %d held, %+v", bad, busiest, all)
	}
}

// P26.1 to P26.3: all lists of three events of a few.
func TestAllShortLists(t *testing.T) {
	few := es(take(1), take(2), take(3), done(1), done(2), done(3), dispatch(2, 1), dispatch(1, 0), dispatch(3, 0), serve(1), serve(-1), end(-1), api.Event{})
	for _, a := range few {
		for _, b := range few {
			for _, d := range few {
				agrees(t, two(), es(a, b, d))
			}
		}
	}
}

// eventsOf bytes: five bytes are one, small numbers but for some.
func eventsOf(b []byte) []api.Event {
	number := func(x byte) int {
		if x >= 246 {
			return anyInts()[x-246]
		}
		return int(int8(x))
	}
	var l []api.Event
	for ; len(b) >= 5; b = b[5:] {
		l = append(l, api.Event{Task: number(b[0]), Kind: api.EventKind(b[1]), Number: number(b[2]), Count: number(b[3]), Mark: number(b[4])})
	}
	return l
}

// P26.1 to P26.3, R1: any configuration, any events.
func FuzzCalls(f *testing.F) {
	f.Add(2, 1, 4, 1, []byte{0, 3, 3, 0, 1, 1, 4, 0, 0, 0, 2, 4, 0, 0, 0, 0, 7, 3, 0, 0, 1, 6, 0, 0, 0, 0, 12, 200, 0, 0})
	f.Add(16, 16, 64, 16, []byte{16, 4, 1, 0, 0, 17, 4, 1, 0, 0, 250, 4, 246, 255, 246})
	f.Add(0, 1, 1, 1, []byte{1, 4, 1, 1, 1})
	f.Add(1, 17, 65, -1, []byte{})
	f.Fuzz(func(t *testing.T, lanes, shards, window, queue int, b []byte) {
		if len(b) > 600 { // the model is slow
			b = b[:600]
		}
		agrees(t, api.Config{Lanes: lanes, Shards: shards, Window: window, Queue: queue}, eventsOf(b))
	})
}
