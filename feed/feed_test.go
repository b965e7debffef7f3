package feed_test

import (
	"math"
	"reflect"
	"slices"
	"strconv"
	"strings"
	"testing"

	"towpath/api"
	"towpath/feed"
	"towpath/logfile"
)

// put: a write of a value.
func put(key, val string) api.Write { return api.Write{Key: key, Val: val} }

// drop: a write by which the key goes.
func drop(key string) api.Write { return api.Write{Key: key, Drop: true} }

// theLog: the log T of DOC.md.
func theLog() []api.Txn {
	return []api.Txn{
		{Number: 1, Writes: []api.Write{put("a", "1")}},
		{Number: 2, Writes: []api.Write{put("b", "2")}},
		{Number: 3, Writes: []api.Write{put("a", "3"), drop("b")}},
	}
}

// logOf: a log of n transactions, no two of which are alike; every fifth one has no writes.
func logOf(n int) []api.Txn {
	l := make([]api.Txn, n)
	for i := range l {
		l[i].Number = i + 1
		for k := range (i + 1) % 5 {
			l[i].Writes = append(l[i].Writes, put("k"+strconv.Itoa(k), strconv.Itoa(i)))
		}
	}
	return l
}

// from: a source of that log.
func from(t testing.TB, l []api.Txn) *logfile.Source {
	t.Helper()
	s, e := logfile.New(l)
	if e != api.OK {
		t.Fatal(e)
	}
	return s
}

// made: a feed; there must be one.
func made(t testing.TB, s *logfile.Source, mark int, beyond []int, window int) *feed.Feed {
	t.Helper()
	f, e := feed.New(s, mark, beyond, window)
	if f == nil || e != api.OK {
		t.Fatalf("New(.., %d, %v, %d) = %v, %v", mark, beyond, window, f, e)
	}
	return f
}

// notMade: does New answer this error, and no feed?
func notMade(t *testing.T, s *logfile.Source, mark int, beyond []int, window int, want api.Errno) {
	t.Helper()
	if f, e := feed.New(s, mark, beyond, window); f != nil || e != want {
		t.Errorf("New(.., %d, %v, %d) = %v, %v, want %v", mark, beyond, window, f, e, want)
	}
}

// is: was it this error?
func is(t *testing.T, got, want api.Errno) {
	t.Helper()
	if got != want {
		t.Errorf("%v, want %v", got, want)
	}
}

// can: does Can answer this at the mark?
func can(t *testing.T, f *feed.Feed, mark int, want api.EventKind) {
	t.Helper()
	if k := f.Can(mark); k != want {
		t.Errorf("Can(%d) = %d, want %d", mark, k, want)
	}
}

// reads: does Read answer this number?
func reads(t *testing.T, f *feed.Feed, want int) {
	t.Helper()
	if n, e := f.Read(); n != want || e != api.OK {
		t.Errorf("Read = %d, %v, want %d", n, e, want)
	}
}

// notRead: does Read answer this error, and no number?
func notRead(t *testing.T, f *feed.Feed, want api.Errno) {
	t.Helper()
	if n, e := f.Read(); n != 0 || e != want {
		t.Errorf("Read = %d, %v, want %v", n, e, want)
	}
}

// skips: does Skip answer this number?
func skips(t *testing.T, f *feed.Feed, want int) {
	t.Helper()
	if n, e := f.Skip(); n != want || e != api.OK {
		t.Errorf("Skip = %d, %v, want %d", n, e, want)
	}
}

// notSkipped: does Skip answer this error, and no number?
func notSkipped(t *testing.T, f *feed.Feed, want api.Errno) {
	t.Helper()
	if n, e := f.Skip(); n != 0 || e != want {
		t.Errorf("Skip = %d, %v, want %v", n, e, want)
	}
}

// sameTxn: the same number and writes; nil writes are as empty ones.
func sameTxn(a, b api.Txn) bool {
	return a.Number == b.Number && slices.Equal(a.Writes, b.Writes)
}

// dispatches: does Dispatch at the mark answer this transaction?
func dispatches(t *testing.T, f *feed.Feed, mark int, want api.Txn) {
	t.Helper()
	if x, e := f.Dispatch(mark); !sameTxn(x, want) || e != api.OK {
		t.Errorf("Dispatch(%d) = %+v, %v, want %+v", mark, x, e, want)
	}
}

// notDispatched: does Dispatch answer this error, and nothing else?
func notDispatched(t *testing.T, f *feed.Feed, mark int, want api.Errno) {
	t.Helper()
	if x, e := f.Dispatch(mark); !reflect.DeepEqual(x, api.Txn{}) || e != want {
		t.Errorf("Dispatch(%d) = %#v, %v, want %v", mark, x, e, want)
	}
}

// state: does it hold this one, and goes the log up to that one?
func state(t *testing.T, f *feed.Feed, held, fed int) {
	t.Helper()
	if n := f.Held(); n != held {
		t.Errorf("Held = %d, want %d", n, held)
	}
	if n := f.Fed(); n != fed {
		t.Errorf("Fed = %d, want %d", n, fed)
	}
}

// asked: was the source asked for these numbers, in that order?
func asked(t *testing.T, s *logfile.Source, want ...int) {
	t.Helper()
	if l := s.Asked(); !slices.Equal(l, want) {
		t.Errorf("asked for %v, want %v", l, want)
	}
}

// to: the numbers from one to another.
func to(first, last int) []int {
	var l []int
	for n := first; n <= last; n++ {
		l = append(l, n)
	}
	return l
}

// below: ints of all kinds that are below 0.
func below() []int {
	return []int{math.MinInt, math.MinInt + 1, -1 << 32, -1<<32 + 1, -1 << 31, -65537, -65536, -256, -65, -64, -63, -2, -1}
}

// above: ints of all kinds that are above MaxLog.
func above() []int {
	return []int{65537, 65538, 1<<31 - 1, 1 << 31, 1 << 32, 1<<32 + 1, 1<<32 + 2, math.MaxInt - 64, math.MaxInt - 1, math.MaxInt}
}

// Each row of the chapter's examples.
func TestExamples(t *testing.T) {
	s, l := from(t, theLog()), theLog()
	notMade(t, s, 0, []int{1}, 1, api.ErrArg)
	notMade(t, s, 0, nil, 0, api.ErrArg)
	notMade(t, s, 4, nil, 1, api.ErrOrder)
	notMade(t, s, 1, []int{4}, 1, api.ErrOrder)

	f := made(t, s, 0, nil, 1)
	can(t, f, 0, api.EvNone)
	notRead(t, f, api.ErrIdle)
	is(t, f.More(4), api.ErrArg)
	is(t, f.More(2), api.OK)
	can(t, f, 0, api.EvRead)

	reads(t, f, 1)
	notRead(t, f, api.ErrBusy)
	state(t, f, 1, 2)
	can(t, f, 0, api.EvDispatch)

	notSkipped(t, f, api.ErrOrder)
	dispatches(t, f, 0, l[0])

	reads(t, f, 2)
	can(t, f, 0, api.EvNone)
	notDispatched(t, f, 0, api.ErrOrder)
	can(t, f, 1, api.EvDispatch)
	dispatches(t, f, 1, l[1])

	is(t, f.More(1), api.ErrArg)
	is(t, f.More(3), api.OK)
	f.Close()
	notRead(t, f, api.ErrStopped)
	is(t, f.More(3), api.ErrStopped)
	asked(t, s, 1, 2)

	s = from(t, theLog())
	f = made(t, s, 1, []int{3}, 4)
	is(t, f.More(3), api.OK)
	reads(t, f, 2)
	dispatches(t, f, 1, l[1])
	reads(t, f, 3)
	can(t, f, 1, api.EvSkip)
	skips(t, f, 3)
	asked(t, s, 2, 3)
}

// P16.1: what may be at its bounds is a feed that has read up to the mark, and asked for nothing.
func TestNewAtItsBounds(t *testing.T) {
	s := from(t, logOf(6))
	for mark := 0; mark <= 6; mark++ {
		for window := 1; window <= api.MaxWindow; window++ {
			for _, beyond := range [][]int{nil, {}, to(mark+2, 6), {max(mark+2, 6)}} {
				if len(beyond) > 0 && beyond[0] > 6 {
					notMade(t, s, mark, beyond, window, api.ErrOrder)
					continue
				}
				f := made(t, s, mark, beyond, window)
				state(t, f, 0, mark)
				can(t, f, mark, api.EvNone)
				notRead(t, f, api.ErrIdle)
				notSkipped(t, f, api.ErrIdle)
				notDispatched(t, f, mark, api.ErrIdle)
				is(t, f.More(6), api.OK)
				if mark < 6 {
					can(t, f, mark, api.EvRead)
				}
			}
		}
	}
	asked(t, s)

	none := from(t, nil)
	f := made(t, none, 0, nil, 1)
	is(t, f.More(0), api.OK)
	is(t, f.More(1), api.ErrArg)
	notRead(t, f, api.ErrIdle)
	notMade(t, none, 1, nil, 1, api.ErrOrder)
	notMade(t, none, 0, []int{2}, 1, api.ErrOrder)
}

// P16.1: each argument that may not be, at its bounds and far from them.
func TestNewOfWrongArguments(t *testing.T) {
	s := from(t, logOf(9))
	for _, mark := range below() {
		notMade(t, s, mark, nil, 1, api.ErrArg)
		notMade(t, s, mark, []int{5}, 1, api.ErrArg)
	}
	for _, window := range append(append(below(), above()...), 0, 65, 66, 256+1, 1<<16) {
		notMade(t, s, 0, nil, window, api.ErrArg)
		notMade(t, s, 2, []int{4}, window, api.ErrArg)
	}
	for _, beyond := range [][]int{
		{1}, {2}, {3}, {0}, {-1}, {4, 4}, {4, 3}, {5, 7, 6}, {5, 7, 7}, {9, 5}, {3, 5}, {2, 5}, {4, 5, 6, 7, 8, 9, 9},
		{4, -4}, {4, 0}, {4, math.MinInt}, {math.MinInt}, {math.MinInt, 4}, {math.MinInt + 2, 5}, {1<<32 + 5, 5}, {5, 5 - 1<<32}, {math.MaxInt, 4}, {math.MaxInt, math.MaxInt}, {math.MaxInt, math.MinInt},
	} {
		notMade(t, s, 2, beyond, 1, api.ErrArg)
	}
	made(t, s, 2, []int{4, 5, 6, 7, 8, 9}, 1)
	made(t, s, 2, []int{9}, 1)
	asked(t, s)
}

// P16.1: a mark, or one of those beyond it, above the source's last one; at the greatest ints too.
func TestNewAboveTheLast(t *testing.T) {
	s := from(t, logOf(9))
	for _, mark := range append(above(), 10, 11) {
		notMade(t, s, mark, nil, 1, api.ErrOrder)
	}
	for _, n := range append(above(), 10, 11) {
		notMade(t, s, 0, []int{n}, 1, api.ErrOrder)
		notMade(t, s, 3, []int{5, 9, n}, 64, api.ErrOrder)
		notMade(t, s, 9, []int{max(n, 11)}, 64, api.ErrOrder)
	}
	notMade(t, s, 10, []int{12}, 1, api.ErrOrder)
	notMade(t, s, 5, []int{math.MaxInt - 1, math.MaxInt}, 1, api.ErrOrder)
	notMade(t, s, math.MaxInt-2, []int{math.MaxInt}, 1, api.ErrOrder)
	asked(t, s)
}

// P16.1: ErrNil goes ahead of ErrArg, and this ahead of ErrOrder, whichever argument is wrong.
func TestNewOfSeveralWrongArguments(t *testing.T) {
	for _, s := range []*logfile.Source{nil, {}, new(logfile.Source)} {
		notMade(t, s, 0, nil, 1, api.ErrNil)
		notMade(t, s, -1, []int{1, 1}, 0, api.ErrNil)
		notMade(t, s, 4, []int{9}, 1, api.ErrNil)
	}
	s := from(t, theLog())
	notMade(t, s, 4, nil, 0, api.ErrArg)
	notMade(t, s, 4, []int{5}, 1, api.ErrArg)
	notMade(t, s, 4, []int{7, 7}, 1, api.ErrArg)
	notMade(t, s, 1, []int{4}, 65, api.ErrArg)
	notMade(t, s, 1, []int{4, 4}, 1, api.ErrArg)
	notMade(t, s, 0, []int{1, 9}, 1, api.ErrArg)
	notMade(t, s, -1, []int{9}, 1, api.ErrArg)
	for _, beyond := range [][]int{{math.MinInt}, {-1}, {0}, {5}, {math.MaxInt}, {math.MaxInt - 1, math.MaxInt}, {math.MaxInt, math.MinInt}} {
		notMade(t, s, math.MaxInt, beyond, 1, api.ErrArg)
	}
	notMade(t, s, math.MaxInt-1, []int{math.MaxInt}, 1, api.ErrArg)
}

// P16.2: up to the source's last one, never down; what is refused changes nothing.
func TestMore(t *testing.T) {
	s := from(t, logOf(7))
	for mark := range 8 {
		f := made(t, s, mark, nil, 1)
		for last := mark; last <= 7; last++ {
			is(t, f.More(last), api.OK)
			is(t, f.More(last), api.OK)
			for _, wrong := range append(append(below(), above()...), last-1, 8) {
				is(t, f.More(wrong), api.ErrArg)
				state(t, f, 0, last)
			}
		}
	}
	f := made(t, s, 0, nil, 1)
	is(t, f.More(7), api.OK)
	is(t, f.More(6), api.ErrArg)
	state(t, f, 0, 7)
	asked(t, s)
}

// P16.2, P16.4: it reads up to Fed, and on when there is more.
func TestReadUpToFed(t *testing.T) {
	l := logOf(9)
	s := from(t, l)
	f := made(t, s, 2, nil, 64)
	for _, fed := range []int{2, 3, 3, 6, 9} {
		is(t, f.More(fed), api.OK)
		for f.Can(0) == api.EvRead {
			n := len(s.Asked()) + 3
			reads(t, f, n)
			state(t, f, n, fed)
			dispatches(t, f, 0, l[n-1])
			state(t, f, 0, fed)
		}
		notRead(t, f, api.ErrIdle)
		can(t, f, math.MaxInt, api.EvNone)
		asked(t, s, to(3, fed)...)
	}
}

// P16.3, P16.6: at every window, the mark from which on the record that is held may go, at all ints.
func TestTheWindow(t *testing.T) {
	const n = 70
	l := logOf(n)
	for window := 1; window <= api.MaxWindow; window++ {
		f := made(t, from(t, l), n-1, nil, window)
		is(t, f.More(n), api.OK)
		reads(t, f, n)
		for _, mark := range append(below(), 0, 1, n-window-2, n-window-1) {
			if mark < n-window {
				can(t, f, mark, api.EvNone)
				notDispatched(t, f, mark, api.ErrOrder)
				state(t, f, n, n)
			}
		}
		for _, mark := range append(above(), n-window, n-window+1, n-1, n, n+1) {
			can(t, f, mark, api.EvDispatch)
		}
		dispatches(t, f, n-window, l[n-1])
		state(t, f, 0, n)
	}
	for _, mark := range append(above(), n, n+1) {
		f := made(t, from(t, l), n-1, nil, api.MaxWindow)
		is(t, f.More(n), api.OK)
		reads(t, f, n)
		dispatches(t, f, mark, l[n-1])
	}
}

// P16.3, P16.6: a mark below 0 is one as well: how far above it the record is, is all that counts.
func TestMarksBelowNought(t *testing.T) {
	l := theLog()
	f := made(t, from(t, l), 0, nil, 3)
	is(t, f.More(3), api.OK)
	reads(t, f, 1)
	can(t, f, -3, api.EvNone)
	notDispatched(t, f, -3, api.ErrOrder)
	can(t, f, -2, api.EvDispatch)
	dispatches(t, f, -2, l[0])
}

// P16.3, P16.5, P16.6: one that was beyond is skipped at every mark, whatever the window, and nothing else is.
func TestSkip(t *testing.T) {
	l := logOf(8)
	s := from(t, l)
	f := made(t, s, 1, []int{3, 5, 6, 8}, 1)
	is(t, f.More(8), api.OK)
	marks := append(append(below(), above()...), 0, 1, 2, 3, 4, 5, 6, 7, 8, 9)
	for n := 2; n <= 8; n++ {
		notSkipped(t, f, api.ErrIdle)
		reads(t, f, n)
		if !slices.Contains([]int{3, 5, 6, 8}, n) {
			notSkipped(t, f, api.ErrOrder)
			state(t, f, n, 8)
			dispatches(t, f, n-1, l[n-1])
			continue
		}
		for _, mark := range marks {
			can(t, f, mark, api.EvSkip)
			notDispatched(t, f, mark, api.ErrOrder)
			state(t, f, n, 8)
		}
		notRead(t, f, api.ErrBusy)
		skips(t, f, n)
		state(t, f, 0, 8)
	}
	notSkipped(t, f, api.ErrIdle)
	notRead(t, f, api.ErrIdle)
	asked(t, s, to(2, 8)...)
}

// P16.4: ErrBusy goes ahead of ErrStopped, and this ahead of ErrIdle; what is held stays, and nothing is asked.
func TestReadInItsOrder(t *testing.T) {
	for _, beyond := range [][]int{nil, {3}} {
		s := from(t, theLog())
		f := made(t, s, 1, beyond, 64)
		is(t, f.More(3), api.OK)
		reads(t, f, 2)
		notRead(t, f, api.ErrBusy)
		dispatches(t, f, 1, theLog()[1])
		reads(t, f, 3)
		for range 2 {
			notRead(t, f, api.ErrBusy)
			state(t, f, 3, 3)
			f.Close()
		}
		if beyond == nil {
			dispatches(t, f, 1, theLog()[2])
		} else {
			skips(t, f, 3)
		}
		notRead(t, f, api.ErrStopped)
		asked(t, s, 2, 3)
	}
}

// P16.6: what is not there to be handed on, at all marks.
func TestDispatchOfNone(t *testing.T) {
	f := made(t, from(t, theLog()), 0, nil, 1)
	for _, fed := range []int{0, 3} {
		is(t, f.More(fed), api.OK)
		for _, mark := range append(append(below(), above()...), 0, 1, 3) {
			notDispatched(t, f, mark, api.ErrIdle)
		}
	}
	reads(t, f, 1)
	dispatches(t, f, 0, theLog()[0])
	notDispatched(t, f, 0, api.ErrIdle)
}

// P16.7: behind Close nothing is read, at any time; Fed stays; what is held is handed on, by the same rules.
func TestClose(t *testing.T) {
	l := theLog()
	for _, fed := range []int{0, 2, 3} {
		s := from(t, l)
		f := made(t, s, 0, nil, 1)
		is(t, f.More(fed), api.OK)
		f.Close()
		for range 2 {
			can(t, f, 0, api.EvNone)
			notRead(t, f, api.ErrStopped)
			for _, last := range append(append(below(), above()...), 0, 1, 2, 3, 4) {
				is(t, f.More(last), api.ErrStopped)
			}
			notSkipped(t, f, api.ErrIdle)
			notDispatched(t, f, 0, api.ErrIdle)
			state(t, f, 0, fed)
			f.Close()
		}
		asked(t, s)
	}

	s := from(t, l)
	f := made(t, s, 1, nil, 1)
	is(t, f.More(3), api.OK)
	reads(t, f, 2)
	f.Close()
	state(t, f, 2, 3)
	can(t, f, 0, api.EvNone)
	notDispatched(t, f, 0, api.ErrOrder)
	notSkipped(t, f, api.ErrOrder)
	can(t, f, 1, api.EvDispatch)
	dispatches(t, f, 1, l[1])
	can(t, f, 9, api.EvNone)
	notRead(t, f, api.ErrStopped)
	asked(t, s, 2)

	s = from(t, l)
	f = made(t, s, 0, []int{2}, 1)
	is(t, f.More(3), api.OK)
	reads(t, f, 1)
	dispatches(t, f, 0, l[0])
	reads(t, f, 2)
	f.Close()
	can(t, f, 0, api.EvSkip)
	notDispatched(t, f, 2, api.ErrOrder)
	skips(t, f, 2)
	can(t, f, 0, api.EvNone)
	notRead(t, f, api.ErrStopped)
}

// P16.8: of every mark and of all that may be beyond it, each number behind the mark is asked for once, and the others are handed on.
func TestWhatFollows(t *testing.T) {
	const n = 8
	l := logOf(n)
	for mark := range n + 1 {
		for set := range 1 << max(n-mark-1, 0) {
			var beyond []int
			var want []api.Txn
			for k := mark + 1; k <= n; k++ {
				if k > mark+1 && set>>(k-mark-2)&1 != 0 {
					beyond = append(beyond, k)
				} else {
					want = append(want, l[k-1])
				}
			}
			s := from(t, l)
			got := allOf(t, made(t, s, mark, beyond, 1+set%api.MaxWindow), n)
			if !slices.EqualFunc(got, want, sameTxn) {
				t.Fatalf("behind %d without %v: %+v, want %+v", mark, beyond, got, want)
			}
			asked(t, s, to(mark+1, n)...)
		}
	}
}

// allOf drives a feed up to a number, the mark being ever as far as it must be, and tells what was handed on.
func allOf(t *testing.T, f *feed.Feed, last int) []api.Txn {
	t.Helper()
	is(t, f.More(last), api.OK)
	var l []api.Txn
	for {
		switch f.Can(f.Held() - 1) {
		case api.EvRead:
			f.Read()
		case api.EvSkip:
			f.Skip()
		case api.EvDispatch:
			x, _ := f.Dispatch(f.Held() - 1)
			l = append(l, x)
		default:
			return l
		}
	}
}

// P16.8: the greatest log that may be, of which every third one was beyond.
func TestTheGreatestLog(t *testing.T) {
	l := logOf(api.MaxLog)
	s := from(t, l)
	var beyond []int
	var want []api.Txn
	for n := 1; n <= api.MaxLog; n++ {
		if n%3 == 0 {
			beyond = append(beyond, n)
		} else {
			want = append(want, l[n-1])
		}
	}
	f := made(t, s, 0, beyond, api.MaxWindow)
	is(t, f.More(api.MaxLog+1), api.ErrArg)
	if got := allOf(t, f, api.MaxLog); !slices.EqualFunc(got, want, sameTxn) {
		t.Errorf("%d were handed on, want %d", len(got), len(want))
	}
	asked(t, s, to(1, api.MaxLog)...)
}

// P16.6: a transaction at the bounds of what may be is handed on whole.
func TestGreatTransactions(t *testing.T) {
	x := api.Txn{Number: 1}
	for i := range api.MaxWrites {
		x.Writes = append(x.Writes, put(strings.Repeat("k", api.MaxKey-2)+strconv.Itoa(i+10), strings.Repeat("v", api.MaxVal)))
	}
	x.Writes[7], x.Writes[8] = drop("\x00\xff"), put("\x00\xff", "\x00")
	f := made(t, from(t, []api.Txn{x}), 0, nil, 1)
	is(t, f.More(1), api.OK)
	reads(t, f, 1)
	dispatches(t, f, 0, x)
}

// R3: a nil feed and a zero struct are none, to every call, and stay none.
func TestFeedsThatAreNotThere(t *testing.T) {
	for _, f := range []*feed.Feed{nil, {}, new(feed.Feed)} {
		for range 2 {
			for _, n := range append(append(below(), above()...), 0, 1, 2) {
				is(t, f.More(n), api.ErrNil)
				can(t, f, n, api.EvNone)
				notDispatched(t, f, n, api.ErrNil)
			}
			notRead(t, f, api.ErrNil)
			notSkipped(t, f, api.ErrNil)
			state(t, f, 0, 0)
			f.Close()
		}
	}
}

// R4: the list of those beyond is neither changed nor kept, nor its spare room.
func TestWhatIsHandedInStays(t *testing.T) {
	room := []int{3, 5, 7, 9}
	f := made(t, from(t, logOf(6)), 1, room[:2], 64)
	is(t, f.More(6), api.OK)
	if !slices.Equal(room, []int{3, 5, 7, 9}) {
		t.Errorf("changed to %v", room)
	}
	copy(room, []int{2, 4, 6, 8})
	for n := 2; n <= 6; n++ {
		reads(t, f, n)
		if n == 3 || n == 5 {
			skips(t, f, n)
		} else {
			dispatches(t, f, n, logOf(6)[n-1])
		}
	}
	if !slices.Equal(room, []int{2, 4, 6, 8}) {
		t.Errorf("changed to %v", room)
	}
}

// R4: what Dispatch answered may be changed, its spare room too: neither the source nor another feed can tell.
func TestWhatIsAnsweredIsNew(t *testing.T) {
	l := theLog()
	s := from(t, l)
	a, b := made(t, s, 2, nil, 1), made(t, s, 2, nil, 1)
	for _, f := range []*feed.Feed{a, b} {
		is(t, f.More(3), api.OK)
		reads(t, f, 3)
	}
	x, _ := a.Dispatch(2)
	all := x.Writes[:cap(x.Writes)]
	for i := range all {
		all[i] = put("z", "z")
	}
	dispatches(t, b, 2, l[2])
	if again, e := s.Get(3); !sameTxn(again, l[2]) || e != api.OK {
		t.Errorf("the source has %+v, %v", again, e)
	}
}

// R2: calls that are refused are as if they had not been, at every state of a feed.
func TestWhatIsRefusedChangesNothing(t *testing.T) {
	l := theLog()
	s := from(t, l)
	f := made(t, s, 0, []int{2}, 1)
	refused := func(held, fed int, kind api.EventKind, mark int) {
		t.Helper()
		toRead, toHandOn := api.ErrIdle, api.ErrIdle
		if held != 0 {
			toRead, toHandOn = api.ErrBusy, api.ErrOrder
		}
		for range 2 {
			is(t, f.More(fed-1), api.ErrArg)
			is(t, f.More(4), api.ErrArg)
			if kind != api.EvRead {
				notRead(t, f, toRead)
			}
			if kind != api.EvSkip {
				notSkipped(t, f, toHandOn)
			}
			if kind != api.EvDispatch {
				notDispatched(t, f, mark, toHandOn)
			}
			state(t, f, held, fed)
			can(t, f, mark, kind)
		}
	}
	refused(0, 0, api.EvNone, 0)
	is(t, f.More(3), api.OK)
	refused(0, 3, api.EvRead, 0)
	reads(t, f, 1)
	refused(1, 3, api.EvNone, -1)
	refused(1, 3, api.EvDispatch, 0)
	dispatches(t, f, 0, l[0])
	reads(t, f, 2)
	refused(2, 3, api.EvSkip, 0)
	skips(t, f, 2)
	reads(t, f, 3)
	refused(3, 3, api.EvNone, 1)
	refused(3, 3, api.EvDispatch, 2)
	dispatches(t, f, 2, l[2])
	refused(0, 3, api.EvNone, 3)
	asked(t, s, 1, 2, 3)
}

// R5: two feeds of one source share but the source: each reads on its own.
func TestTwoFeeds(t *testing.T) {
	l := theLog()
	s := from(t, l)
	a, b := made(t, s, 0, []int{2}, 1), made(t, s, 1, nil, 2)
	is(t, a.More(2), api.OK)
	state(t, b, 0, 1)
	is(t, b.More(3), api.OK)
	reads(t, a, 1)
	state(t, b, 0, 3)
	dispatches(t, a, 0, l[0])
	reads(t, a, 2)
	reads(t, b, 2)
	can(t, a, 1, api.EvSkip)
	can(t, b, 1, api.EvDispatch)
	skips(t, a, 2)
	a.Close()
	dispatches(t, b, 0, l[1])
	reads(t, b, 3)
	dispatches(t, b, 1, l[2])
	state(t, a, 0, 2)
	asked(t, s, 1, 2, 2, 3)
}
