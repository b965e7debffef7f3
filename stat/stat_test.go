package stat_test

import (
	"math"
	"slices"
	"testing"

	"towpath/api"
	"towpath/stat"
)

// like: a configuration.
func like(lanes, shards, window, queue int) api.Config {
	return api.Config{Lanes: lanes, Shards: shards, Window: window, Queue: queue}
}

// two is the configuration of the chapter's examples.
func two() api.Config { return like(2, 1, 4, 1) }

// The events, by what the promises ask of them.
func dispatch(n, mark int) api.Event { return api.Event{Kind: api.EvDispatch, Number: n, Mark: mark} }
func take(task int) api.Event        { return api.Event{Task: task, Kind: api.EvTake} }
func done(task int) api.Event        { return api.Event{Task: task, Kind: api.EvDone} }
func serve(n int) api.Event          { return api.Event{Kind: api.EvServe, Number: n} }
func end(call int) api.Event         { return api.Event{Kind: api.EvEnd, Number: call} }

// es: events, one behind the other.
func es(l ...api.Event) []api.Event { return l }

// kindsBut: all kinds but these, numbers that are none of them too.
func kindsBut(not ...api.EventKind) []api.EventKind {
	var l []api.EventKind
	for kind := range api.EvEnd + 4 {
		if !slices.Contains(not, kind) {
			l = append(l, kind)
		}
	}
	return append(l, 255)
}

// anyInts: those at which something may go wrong.
func anyInts() []int {
	return []int{math.MinInt, math.MinInt + 1, -api.MaxLog, -1, 0, 1, api.MaxLog, api.MaxLog + 1, math.MaxInt - 1, math.MaxInt}
}

// of: the stats of events.
func of(t testing.TB, c api.Config, events []api.Event) api.Stats {
	t.Helper()
	s, e := stat.Of(c, events)
	if e != api.OK {
		t.Fatalf("Of(%+v, %+v): %v", c, events, e)
	}
	return s
}

// lanes: behind how many events each held one.
func lanes(t testing.TB, c api.Config, events []api.Event) []int {
	t.Helper()
	l, e := stat.Lanes(c, events)
	if e != api.OK {
		t.Fatalf("Lanes(%+v, %+v): %v", c, events, e)
	}
	return l
}

// areStats: are these the stats of the events?
func areStats(t testing.TB, c api.Config, events []api.Event, want api.Stats) {
	t.Helper()
	if s := of(t, c, events); s != want {
		t.Errorf("Of(%+v, %+v) = %+v, want %+v", c, events, s, want)
	}
}

// areLanes: is this what the lanes held?
func areLanes(t testing.TB, c api.Config, events []api.Event, want ...int) {
	t.Helper()
	if l := lanes(t, c, events); !slices.Equal(l, want) {
		t.Errorf("Lanes(%+v, %+v) = %v, want %v", c, events, l, want)
	}
}

// refused: do both calls refuse the configuration, and answer nothing besides?
func refused(t testing.TB, c api.Config, events []api.Event) {
	t.Helper()
	if s, e := stat.Of(c, events); s != (api.Stats{}) || e != api.ErrConfig {
		t.Errorf("Of(%+v) = %+v, %v", c, s, e)
	}
	if l, e := stat.Lanes(c, events); len(l) > 0 || e != api.ErrConfig {
		t.Errorf("Lanes(%+v) = %v, %v", c, l, e)
	}
}

// theRow: the events of the chapter's row.
func theRow() []api.Event {
	return es(dispatch(3, 1), take(1), take(2), serve(3), serve(-1), done(1), end(-1))
}

// P26.1, P26.2: the chapter's rows.
func TestExamples(t *testing.T) {
	areStats(t, two(), nil, api.Stats{})
	refused(t, api.Config{}, nil)
	areStats(t, two(), theRow(), api.Stats{Steps: 7, Installs: 1, Lag: 2, Busy: 2, Reads: 1})
	areLanes(t, two(), theRow(), 4, 5)
	areLanes(t, two(), es(take(3)), 0, 0)
	areLanes(t, two(), es(done(1)), 0, 0)
}

// P26.1, P26.2: each field of a configuration at its bounds, and beside them.
func TestConfigurations(t *testing.T) {
	for _, c := range []api.Config{like(1, 1, 1, 1), like(16, 1, 1, 1), like(1, 16, 1, 1), like(1, 1, 64, 1), like(1, 1, 1, 16), like(16, 16, 64, 16)} {
		areStats(t, c, nil, api.Stats{})
		areLanes(t, c, nil, make([]int, c.Lanes)...)
		areStats(t, c, es(take(1), end(-1)), api.Stats{Steps: 2, Busy: 1, Reads: 1})
	}
	for _, n := range []int{math.MinInt, -1, 0, 17, math.MaxInt} {
		for _, events := range [][]api.Event{nil, theRow()} {
			refused(t, like(n, 1, 4, 1), events)
			refused(t, like(2, n, 4, 1), events)
			refused(t, like(2, 1, 4, n), events)
		}
	}
	for _, n := range []int{math.MinInt, -1, 0, 65, math.MaxInt} {
		refused(t, like(2, 1, n, 1), theRow())
	}
}

// P26.1: each event is a step, whatever it is.
func TestSteps(t *testing.T) {
	var l []api.Event
	for _, kind := range kindsBut() {
		l = append(l, api.Event{Kind: kind, Task: 99, Number: -5, Mark: -1})
		if n := of(t, two(), l).Steps; n != len(l) {
			t.Errorf("%d steps of %d", n, len(l))
		}
	}
}

// P26.1: what counts as an install is that it is served, with a number above 0; nothing else is looked at.
func TestInstalls(t *testing.T) {
	for _, n := range anyInts() {
		want := api.Stats{Steps: 1}
		if n > 0 {
			want.Installs = 1
		}
		areStats(t, two(), es(serve(n)), want)
		areStats(t, two(), es(api.Event{Task: -3, Kind: api.EvServe, Number: n, Shard: 88, Count: -1, Mark: 7}), want)
	}
	areStats(t, two(), es(serve(1), serve(-1), serve(1), serve(0), serve(9)), api.Stats{Steps: 5, Installs: 3})
	for _, kind := range kindsBut(api.EvServe) {
		if s := of(t, two(), es(api.Event{Kind: kind, Number: 1})); s.Installs != 0 {
			t.Errorf("the kind %d: %+v", kind, s)
		}
	}
}

// P26.1: how far what is dispatched is above the mark.
func TestLag(t *testing.T) {
	for _, row := range []struct{ number, mark, lag int }{
		{0, 0, 0}, {1, 0, 1}, {1, 1, 0}, {3, 1, 2}, {1, 3, 0}, {70, 3, 67},
		{65536, 0, 65536}, {65536, 65535, 1}, {65536, 65536, 0}, {0, 65536, 0}, {65535, 65536, 0},
		{65537, 0, 0}, {65537, 65536, 0}, {65537, 65537, 0}, {65536, 65537, 0},
		{1, -1, 0}, {0, -1, 0}, {-1, -3, 0}, {-1, 0, 0}, {5, -65536, 0},
		{math.MaxInt, math.MinInt, 0}, {math.MinInt, math.MaxInt, 0}, {math.MaxInt, 0, 0}, {0, math.MinInt, 0}, {65536, math.MinInt, 0}, {math.MinInt, 1, 0},
	} {
		areStats(t, two(), es(dispatch(row.number, row.mark)), api.Stats{Steps: 1, Lag: row.lag})
		areStats(t, two(), es(api.Event{Task: 6, Kind: api.EvDispatch, Number: row.number, Shard: 3, Count: 99, Mark: row.mark}), api.Stats{Steps: 1, Lag: row.lag})
	}
}

// P26.1: of several that are dispatched the greatest lag, wherever it stands; those whose numbers may not be are as if they were not there.
func TestTheGreatestLag(t *testing.T) {
	areStats(t, two(), es(dispatch(5, 1), dispatch(6, 4), dispatch(9, 8)), api.Stats{Steps: 3, Lag: 4})
	areStats(t, two(), es(dispatch(6, 4), dispatch(5, 1), dispatch(9, 8)), api.Stats{Steps: 3, Lag: 4})
	areStats(t, two(), es(dispatch(6, 4), dispatch(9, 8), dispatch(5, 1)), api.Stats{Steps: 3, Lag: 4})
	areStats(t, two(), es(dispatch(1, 3), dispatch(4, 3), dispatch(1, 2)), api.Stats{Steps: 3, Lag: 1})
	areStats(t, two(), es(dispatch(65537, 1), dispatch(3, 1), dispatch(3, -1)), api.Stats{Steps: 3, Lag: 2})
	for _, kind := range kindsBut(api.EvDispatch) {
		if s := of(t, two(), es(dispatch(2, 1), api.Event{Kind: kind, Number: 9, Mark: 1})); s.Lag != 1 {
			t.Errorf("the kind %d: %+v", kind, s)
		}
	}
}

// P26.1: what counts as a read is that a call ends, whatever its number.
func TestReads(t *testing.T) {
	for _, n := range anyInts() {
		areStats(t, two(), es(end(n)), api.Stats{Steps: 1, Reads: 1})
		areStats(t, two(), es(api.Event{Task: 1, Kind: api.EvEnd, Number: n, Shard: 1, Count: 1, Mark: 1}), api.Stats{Steps: 1, Reads: 1})
	}
	areStats(t, two(), es(end(-1), end(-1), serve(-1), end(-2)), api.Stats{Steps: 4, Reads: 3})
	for _, kind := range kindsBut(api.EvEnd) {
		if s := of(t, two(), es(api.Event{Task: -1, Kind: kind, Number: -1})); s.Reads != 0 {
			t.Errorf("the kind %d: %+v", kind, s)
		}
	}
}

// P26.1, P26.2: a lane holds one from what it takes on, up to what is done.
func TestHolding(t *testing.T) {
	for _, row := range []struct {
		events []api.Event
		busy   int
		lanes  [2]int
	}{
		{es(take(1)), 1, [2]int{1, 0}},
		{es(take(2)), 1, [2]int{0, 1}},
		{es(take(1), done(1)), 1, [2]int{1, 0}},
		{es(done(1), take(1)), 1, [2]int{1, 0}},
		{es(take(1), take(1), done(1)), 1, [2]int{2, 0}},
		{es(take(1), done(1), done(1), take(1)), 1, [2]int{2, 0}},
		{es(take(1), done(2), done(1)), 1, [2]int{2, 0}},
		{es(take(1), done(1), take(2), done(2)), 1, [2]int{1, 1}},
		{es(take(1), take(2), done(2), done(1)), 2, [2]int{3, 1}},
		{es(take(2), take(1), done(2), take(2), done(2), done(1)), 2, [2]int{4, 3}},
		{es(take(1), serve(1), serve(-1), end(-1), api.Event{}), 1, [2]int{5, 0}},
	} {
		if s := of(t, two(), row.events); s.Busy != row.busy {
			t.Errorf("%+v: Busy %d, want %d", row.events, s.Busy, row.busy)
		}
		areLanes(t, two(), row.events, row.lanes[:]...)
	}
}

// P26.1, P26.2: what is no take or done of a lane changes nothing of what lanes hold.
func TestHoldingIsOfLanesAlone(t *testing.T) {
	for _, task := range append(anyInts(), -2, 3, 4, 5, 17) {
		if task == 1 {
			continue
		}
		areLanes(t, two(), es(take(1), take(task), done(task)), 3, 0)
		areLanes(t, two(), es(take(task), take(task)), 0, 0)
		areStats(t, two(), es(take(task), take(task)), api.Stats{Steps: 2})
	}
	for _, kind := range kindsBut(api.EvTake, api.EvDone) {
		odd := api.Event{Task: 1, Kind: kind}
		areLanes(t, two(), es(odd, take(1), odd, done(1), odd), 2, 0)
		if s := of(t, two(), es(odd, odd)); s.Busy != 0 {
			t.Errorf("the kind %d: %+v", kind, s)
		}
	}
}

// P26.2: what a lane holds is told by Task and Kind, whatever the other fields are.
func TestHoldingOfAnyNumber(t *testing.T) {
	for _, n := range anyInts() {
		takes := api.Event{Task: 2, Kind: api.EvTake, Number: n, Shard: n, Count: n, Mark: n}
		lets := api.Event{Task: 2, Kind: api.EvDone, Number: -n, Shard: n, Count: n, Mark: n}
		areLanes(t, two(), es(takes, lets, takes, takes, lets), 0, 3)
		areStats(t, two(), es(takes, lets), api.Stats{Steps: 2, Busy: 1})
	}
}

// P26.1, P26.2: the configuration tells which tasks are lanes.
func TestEveryLane(t *testing.T) {
	for many := 1; many <= 16; many++ {
		c := like(many, 1, 4, 1)
		var l []api.Event
		for task := -1; task <= 18; task++ {
			l = append(l, take(task))
		}
		want := make([]int, many)
		for i := range want {
			want[i] = 18 - i // the lane i + 1 takes its own behind i + 2 others
		}
		areStats(t, c, l, api.Stats{Steps: 20, Busy: many})
		areLanes(t, c, l, want...)
	}
}

// P26.1: Busy is the greatest number there was, not the last one.
func TestBusyGoesDown(t *testing.T) {
	c := like(3, 1, 4, 1)
	areStats(t, c, es(take(1), take(3), done(1), done(3), take(2)), api.Stats{Steps: 5, Busy: 2})
	areStats(t, c, es(take(2), done(2), take(1), take(2), take(3), done(2)), api.Stats{Steps: 6, Busy: 3})
	areStats(t, c, es(take(1), done(1), take(2), done(2), take(3), done(3)), api.Stats{Steps: 6, Busy: 1})
}

// R4: what is handed in is not changed, its spare room neither; an answer is its own.
func TestLists(t *testing.T) {
	room := append(theRow(), end(-7), take(2))
	events, was := room[:7], slices.Clone(room)
	areStats(t, two(), events, api.Stats{Steps: 7, Installs: 1, Lag: 2, Busy: 2, Reads: 1})
	first := lanes(t, two(), events)
	for i := range first[:cap(first)] {
		first[:cap(first)][i] = -9
	}
	areLanes(t, two(), events, 4, 5)
	if !slices.Equal(room, was) {
		t.Errorf("%+v", room)
	}
	areStats(t, two(), []api.Event{}, api.Stats{})
	areLanes(t, two(), []api.Event{}, 0, 0)
	areLanes(t, two(), nil, 0, 0)
}

// R5: what was asked ahead changes nothing.
func TestNothingIsKept(t *testing.T) {
	for range 3 {
		areStats(t, two(), theRow(), api.Stats{Steps: 7, Installs: 1, Lag: 2, Busy: 2, Reads: 1})
		areLanes(t, two(), theRow(), 4, 5)
		areStats(t, like(16, 1, 4, 1), es(take(16)), api.Stats{Steps: 1, Busy: 1})
		areStats(t, two(), es(serve(1)), api.Stats{Steps: 1, Installs: 1})
		areLanes(t, two(), es(serve(1)), 0, 0)
		refused(t, api.Config{}, theRow())
	}
}
