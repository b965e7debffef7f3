package feed_test

import (
	"math/rand"
	"slices"
	"testing"

	"towpath/api"
	"towpath/feed"
	"towpath/logfile"
)

// plain is a feed by the chapter's words: the log, what was asked for, and what was handed on.
type plain struct {
	log         []api.Txn
	mark        int // of the beginning
	beyond      []int
	window      int
	fed         int
	asked       []int
	handedOn    []api.Txn
	skipped     []int
	holds, shut bool
}

// newPlain: what New must answer.
func newPlain(l []api.Txn, mark int, beyond []int, window int) (*plain, api.Errno) {
	if mark < 0 || window < 1 || window > 64 {
		return nil, api.ErrArg
	}
	for i, n := range beyond {
		if i == 0 && n <= mark+1 || i > 0 && n <= beyond[i-1] {
			return nil, api.ErrArg
		}
	}
	for _, n := range append([]int{mark}, beyond...) {
		if n > len(l) {
			return nil, api.ErrOrder
		}
	}
	return &plain{log: l, mark: mark, beyond: slices.Clone(beyond), window: window, fed: mark}, api.OK
}

// last: the number of the record that it read last.
func (p *plain) last() int { return p.mark + len(p.asked) }

// isBeyond: was the record that it read last beyond from the beginning?
func (p *plain) isBeyond() bool { return slices.Contains(p.beyond, p.last()) }

func (p *plain) more(last int) api.Errno {
	if p.shut {
		return api.ErrStopped
	}
	if last < p.fed || last > len(p.log) {
		return api.ErrArg
	}
	p.fed = last
	return api.OK
}

func (p *plain) can(mark int) api.EventKind {
	if !p.holds && !p.shut && p.last() < p.fed {
		return api.EvRead
	}
	if p.holds && p.isBeyond() {
		return api.EvSkip
	}
	if p.holds && p.last()-mark <= p.window {
		return api.EvDispatch
	}
	return api.EvNone
}

func (p *plain) read() (int, api.Errno) {
	if p.holds {
		return 0, api.ErrBusy
	}
	if p.shut {
		return 0, api.ErrStopped
	}
	if p.last() == p.fed {
		return 0, api.ErrIdle
	}
	p.asked = append(p.asked, p.last()+1)
	p.holds = true
	return p.last(), api.OK
}

func (p *plain) skip() (int, api.Errno) {
	if !p.holds {
		return 0, api.ErrIdle
	}
	if !p.isBeyond() {
		return 0, api.ErrOrder
	}
	p.holds = false
	p.skipped = append(p.skipped, p.last())
	return p.last(), api.OK
}

func (p *plain) dispatch(mark int) (api.Txn, api.Errno) {
	if !p.holds {
		return api.Txn{}, api.ErrIdle
	}
	if p.isBeyond() || p.last()-mark > p.window {
		return api.Txn{}, api.ErrOrder
	}
	p.holds = false
	p.handedOn = append(p.handedOn, p.log[p.last()-1])
	return p.log[p.last()-1], api.OK
}

func (p *plain) held() int {
	if !p.holds {
		return 0
	}
	return p.last()
}

// pair is a feed and the plain one, that are asked the same; it counts what came of it.
type pair struct {
	s        *logfile.Source
	f        *feed.Feed
	p        *plain
	handedOn []api.Txn
	codes    map[api.Errno]int
	kinds    map[api.EventKind]int
}

// newPair: both, or nil, if both answer the same error.
func newPair(t testing.TB, l []api.Txn, mark int, beyond []int, window int) (*pair, api.Errno) {
	t.Helper()
	s := from(t, l)
	f, e := feed.New(s, mark, beyond, window)
	p, wrong := newPlain(l, mark, beyond, window)
	if e != wrong || (f == nil) != (p == nil) {
		t.Fatalf("New(%d records, %d, %v, %d) = %v, %v, want %v", len(l), mark, beyond, window, f, e, wrong)
	}
	if e != api.OK {
		return nil, e
	}
	return &pair{s: s, f: f, p: p, codes: map[api.Errno]int{}, kinds: map[api.EventKind]int{}}, api.OK
}

// number: are both answers the same?
func (x *pair) number(t testing.TB, call string, n int, e api.Errno, want int, wrong api.Errno) {
	t.Helper()
	if n != want || e != wrong {
		t.Fatalf("%s = %d, %v, want %d, %v", call, n, e, want, wrong)
	}
	x.codes[e]++
}

// step asks both for one thing, by which and a number.
func (x *pair) step(t testing.TB, which, number int) {
	t.Helper()
	switch which {
	case 0:
		x.number(t, "More", 0, x.f.More(number), 0, x.p.more(number))
	case 1:
		n, e := x.f.Read()
		want, wrong := x.p.read()
		x.number(t, "Read", n, e, want, wrong)
	case 2:
		n, e := x.f.Skip()
		want, wrong := x.p.skip()
		x.number(t, "Skip", n, e, want, wrong)
	case 3:
		got, e := x.f.Dispatch(number)
		want, wrong := x.p.dispatch(number)
		x.number(t, "Dispatch", got.Number, e, want.Number, wrong)
		if !sameTxn(got, want) {
			t.Fatalf("Dispatch = %+v, want %+v", got, want)
		}
		if e == api.OK {
			x.handedOn = append(x.handedOn, got)
		}
	case 4:
		x.f.Close()
		x.p.shut = true
	}
}

// look: do both tell the same, and was the source asked for just the same?
func (x *pair) look(t testing.TB, mark int) {
	t.Helper()
	if n, want := x.f.Held(), x.p.held(); n != want {
		t.Fatalf("Held = %d, want %d", n, want)
	}
	if n := x.f.Fed(); n != x.p.fed {
		t.Fatalf("Fed = %d, want %d", n, x.p.fed)
	}
	k, want := x.f.Can(mark), x.p.can(mark)
	if k != want {
		t.Fatalf("Can(%d) = %d, want %d", mark, k, want)
	}
	x.kinds[k]++
	if l := x.s.Asked(); !slices.Equal(l, x.p.asked) {
		t.Fatalf("asked for %v, want %v", l, x.p.asked)
	}
}

// follows: was it as P16.8 says?
func (x *pair) follows(t testing.TB) {
	t.Helper()
	at := x.p.mark
	for _, n := range x.s.Asked() {
		if at++; n != at {
			t.Fatalf("asked for %v behind %d", x.s.Asked(), x.p.mark)
		}
	}
	if x.p.holds {
		at--
	}
	var want []api.Txn
	for _, txn := range x.p.log[x.p.mark:at] {
		if !slices.Contains(x.p.beyond, txn.Number) {
			want = append(want, txn)
		}
	}
	if !slices.EqualFunc(x.handedOn, want, sameTxn) {
		t.Fatalf("handed on %+v, want %+v", x.handedOn, want)
	}
}

// someBeyond: by the dice, numbers beyond a mark that may be mostly.
func someBeyond(dice *rand.Rand, mark, last int) []int {
	var l []int
	share := 1 + dice.Intn(4)
	for n := mark + 2; n <= last; n++ {
		if dice.Intn(share) == 0 {
			l = append(l, n)
		}
	}
	switch spoilt := dice.Intn(12); {
	case spoilt == 0:
		l = append(l, last+dice.Intn(4)-1)
	case spoilt == 1 && len(l) > 1:
		l[dice.Intn(len(l))] = dice.Intn(last + 2)
	case spoilt == 2:
		l = append([]int{mark + 1}, l...)
	}
	return l
}

// All promises, by dice: calls in any order are answered as the chapter's words say.
func TestAgainstPlainFeed(t *testing.T) {
	dice := rand.New(rand.NewSource(16))
	begun, codes, kinds := map[api.Errno]int{}, map[api.Errno]int{}, map[api.EventKind]int{}
	skipped, handedOn, whole := 0, 0, 0
	for range 2000 {
		last := dice.Intn(30)
		mark := max(0, dice.Intn(last+3)-dice.Intn(30))
		window := 1 + dice.Intn(6)
		if dice.Intn(20) == 0 {
			window = []int{0, -1, 64, 65}[dice.Intn(4)]
		}
		x, e := newPair(t, logOf(last), mark, someBeyond(dice, mark, last), window)
		begun[e]++
		if e != api.OK {
			continue
		}
		for range 150 {
			near := x.p.last() - window + dice.Intn(5) - 2
			switch which := dice.Intn(30); {
			case which < 4:
				x.step(t, 0, x.p.fed+dice.Intn(5)-1)
			case which == 4 && dice.Intn(5) == 0:
				x.step(t, 4, 0)
			default:
				x.step(t, 1+which%3, near)
			}
			x.look(t, near)
		}
		x.follows(t)
		for e, n := range x.codes {
			codes[e] += n
		}
		for k, n := range x.kinds {
			kinds[k] += n
		}
		skipped, handedOn = skipped+len(x.p.skipped), handedOn+len(x.handedOn)
		if last > 5 && x.p.last() == last && !x.p.holds {
			whole++
		}
	}
	for _, e := range []api.Errno{api.OK, api.ErrArg, api.ErrOrder, api.ErrBusy, api.ErrIdle, api.ErrStopped} {
		if codes[e] < 1000 {
			t.Errorf("%v only %d times", e, codes[e])
		}
	}
	for _, k := range []api.EventKind{api.EvNone, api.EvRead, api.EvSkip, api.EvDispatch} {
		if kinds[k] < 1000 {
			t.Errorf("Can answered %d only %d times", k, kinds[k])
		}
	}
	for _, e := range []api.Errno{api.OK, api.ErrArg, api.ErrOrder} {
		if begun[e] < 50 {
			t.Errorf("New: %v only %d times", e, begun[e])
		}
	}
	if skipped < 1000 || handedOn < 1000 || whole < 100 {
		t.Errorf("%d skipped, %d handed on, %d logs read whole", skipped, handedOn, whole)
	}
}

// FuzzFeed: a log of so many records; each two bytes are a call and a number.
func FuzzFeed(f *testing.F) {
	f.Add(uint8(3), int8(0), uint32(0), int8(1), []byte{1, 0, 0, 4, 0, 2, 1, 0, 1, 0, 2, 0, 3, 0, 1, 0, 3, 0, 3, 1, 0, 1, 0, 3, 4, 0, 1, 0, 0, 3})
	f.Add(uint8(3), int8(1), uint32(1), int8(4), []byte{0, 3, 1, 0, 3, 1, 1, 0, 3, 1, 2, 0})
	f.Add(uint8(9), int8(4), uint32(1<<31), int8(64), []byte{0, 9, 1, 0, 3, 0})
	f.Fuzz(func(t *testing.T, last uint8, mark int8, set uint32, window int8, calls []byte) {
		if len(calls) > 2000 {
			return
		}
		var beyond []int
		for i := range 32 {
			if set>>i&1 != 0 {
				beyond = append(beyond, int(mark)+2+i)
			}
		}
		if set>>31 != 0 && set&1 != 0 {
			slices.Reverse(beyond)
		}
		x, e := newPair(t, logOf(int(last)%64), int(mark), beyond, int(window))
		if e != api.OK {
			return
		}
		for ; len(calls) > 1; calls = calls[2:] {
			x.step(t, int(calls[0]%5), int(int8(calls[1])))
			x.look(t, int(int8(calls[1])))
		}
		x.follows(t)
	})
}
