package lane_test

import (
	"hash/fnv"
	"math/rand"
	"reflect"
	"strings"
	"testing"

	"towpath/api"
	"towpath/lane"
)

// plain is a lane by the chapter's words: for each write of the transaction it keeps whether it counts, was sent, and how many are out.
type plain struct {
	number, shards int
	holds          int
	writes         []api.Write
	counts, sent   []bool
	out            int
}

// may: may the transaction be, by DOC.md's words?
func may(x api.Txn) bool {
	if x.Number < 1 || x.Number > 65536 || len(x.Writes) > 32 {
		return false
	}
	for _, w := range x.Writes {
		if len(w.Key) < 1 || len(w.Key) > 64 || len(w.Val) > 1024 || w.Drop && w.Val != "" {
			return false
		}
	}
	return true
}

// take: what Take must answer.
func (p *plain) take(x api.Txn) api.Errno {
	if p.holds != 0 {
		return api.ErrBusy
	}
	if !may(x) {
		return api.ErrArg
	}
	p.holds = x.Number
	p.writes = append([]api.Write(nil), x.Writes...)
	p.counts, p.sent = make([]bool, len(x.Writes)), make([]bool, len(x.Writes))
	for i, w := range x.Writes {
		p.counts[i] = true
		for _, later := range x.Writes[i+1:] {
			if later.Key == w.Key {
				p.counts[i] = false
			}
		}
	}
	return api.OK
}

// first: the place of the first write that counts and was not sent; below 0 if there is none.
func (p *plain) first() int {
	for i := range p.writes {
		if p.counts[i] && !p.sent[i] {
			return i
		}
	}
	return -1
}

// next: what Next must answer.
func (p *plain) next() (int, api.Req, bool) {
	at := p.first()
	if at < 0 {
		return 0, api.Req{}, false
	}
	h := fnv.New32a()
	h.Write([]byte(p.writes[at].Key))
	return int(h.Sum32() % uint32(p.shards)), api.Req{Kind: api.ReqInstall, From: p.number, Number: p.holds, Write: p.writes[at]}, true
}

// send: what Sent must answer.
func (p *plain) send() api.Errno {
	at := p.first()
	if at < 0 {
		return api.ErrIdle
	}
	p.sent[at] = true
	p.out++
	return api.OK
}

// acked: what Acked must answer.
func (p *plain) acked() api.Errno {
	if p.out == 0 {
		return api.ErrIdle
	}
	p.out--
	return api.OK
}

// ready: what Ready must answer.
func (p *plain) ready() bool { return p.holds != 0 && p.first() < 0 && p.out == 0 }

// done: what Done must answer.
func (p *plain) done() (int, api.Errno) {
	if p.holds == 0 {
		return 0, api.ErrIdle
	}
	if !p.ready() {
		return 0, api.ErrBusy
	}
	n := p.holds
	*p = plain{number: p.number, shards: p.shards}
	return n, api.OK
}

// pair is a lane and the plain one, that are asked the same; seen counts what Take, Sent, Acked and Done answered.
type pair struct {
	l    *lane.Lane
	p    *plain
	seen map[string]map[api.Errno]int
}

func newPair(t *testing.T, number int, c api.Config) *pair {
	t.Helper()
	seen := map[string]map[api.Errno]int{}
	for _, name := range []string{"Take", "Sent", "Acked", "Done"} {
		seen[name] = map[api.Errno]int{}
	}
	return &pair{made(t, number, c), &plain{number: number, shards: c.Shards}, seen}
}

// same: was it the same error, of the call of that name?
func (x *pair) same(t *testing.T, name string, got, want api.Errno) {
	t.Helper()
	if got != want {
		t.Fatalf("%s = %v, want %v", name, got, want)
	}
	x.seen[name][got]++
}

// look: do both tell the same?
func (x *pair) look(t *testing.T) {
	t.Helper()
	s, r, ok := x.l.Next()
	shard, want, is := x.p.next()
	if s != shard || !reflect.DeepEqual(r, want) || ok != is {
		t.Fatalf("Next = %d, %#v, %v, want %d, %#v, %v", s, r, ok, shard, want, is)
	}
	if n, ready := x.l.Holds(), x.l.Ready(); n != x.p.holds || ready != x.p.ready() {
		t.Fatalf("holds %d, %v, want %d, %v", n, ready, x.p.holds, x.p.ready())
	}
}

func (x *pair) take(t *testing.T, y api.Txn) {
	t.Helper()
	x.same(t, "Take", x.l.Take(y), x.p.take(y))
}

func (x *pair) send(t *testing.T) {
	t.Helper()
	x.same(t, "Sent", x.l.Sent(), x.p.send())
}

func (x *pair) acked(t *testing.T) {
	t.Helper()
	x.same(t, "Acked", x.l.Acked(), x.p.acked())
}

func (x *pair) done(t *testing.T) {
	t.Helper()
	n, e := x.l.Done()
	number, want := x.p.done()
	if n != number {
		t.Fatalf("Done = %d, %v, want %d, %v", n, e, number, want)
	}
	x.same(t, "Done", e, want)
}

// someKey: by the dice, one of few mostly, so that they come again.
func someKey(dice *rand.Rand) string {
	if dice.Intn(4) > 0 {
		return string(rune('a' + dice.Intn(5)))
	}
	b := make([]byte, 1+dice.Intn(api.MaxKey))
	dice.Read(b)
	return string(b)
}

// someTxn: by the dice, one that may be mostly.
func someTxn(dice *rand.Rand) api.Txn {
	x := api.Txn{Number: 1 + dice.Intn(api.MaxLog)}
	for range dice.Intn(1 + api.MaxWrites>>dice.Intn(4)) {
		w := api.Write{Key: someKey(dice)}
		if w.Drop = dice.Intn(3) == 0; !w.Drop {
			w.Val = strings.Repeat("v", dice.Intn(4))
		}
		x.Writes = append(x.Writes, w)
	}
	switch dice.Intn(40) {
	case 0:
		x.Number = -dice.Intn(3)
	case 1:
		x.Number += api.MaxLog
	case 2:
		x.Writes = append(x.Writes, many("x", api.MaxWrites+1-len(x.Writes))...)
	case 3:
		x.Writes = append(x.Writes, api.Write{})
	}
	return x
}

// All promises, by dice: calls in any order are answered as the chapter's words say.
func TestAgainstPlainLane(t *testing.T) {
	dice := rand.New(rand.NewSource(14))
	taken, ended := 0, 0
	for range 300 {
		c := sized(1+dice.Intn(api.MaxLanes), 1+dice.Intn(api.MaxShards))
		x := newPair(t, 1+dice.Intn(c.Lanes), c)
		for range 300 {
			switch dice.Intn(10) {
			case 0:
				x.take(t, someTxn(dice))
			case 1, 2, 3, 4:
				x.send(t)
			case 5, 6, 7, 8:
				x.acked(t)
			case 9:
				x.done(t)
			}
			x.look(t)
		}
		taken += x.seen["Take"][api.OK]
		ended += x.seen["Done"][api.OK]
		for _, d := range []struct {
			name string
			e    api.Errno
		}{{"Take", api.ErrBusy}, {"Sent", api.OK}, {"Sent", api.ErrIdle}, {"Acked", api.OK}, {"Acked", api.ErrIdle}} {
			if x.seen[d.name][d.e] == 0 {
				t.Fatalf("never %s with %v", d.name, d.e)
			}
		}
	}
	if taken < 1000 || ended < 1000 {
		t.Errorf("only %d taken, %d ended", taken, ended)
	}
}

// P14.7: from Take to Done each write that counts is sent once, in order, and no other one, however sends and acknowledgements come.
func TestEachWriteOnce(t *testing.T) {
	dice := rand.New(rand.NewSource(147))
	l := only(t)
	some := 0
	for range 3000 {
		x := someTxn(dice)
		if !may(x) {
			continue
		}
		is(t, l.Take(x), api.OK)
		seen, steps := map[string]int{}, 0
		at := 0 // behind the place of the last one sent
		for !l.Ready() {
			if dice.Intn(2) == 0 {
				if l.Acked() == api.OK {
					steps++
				}
				continue
			}
			_, r, ok := l.Next()
			if !ok {
				continue
			}
			for at < len(x.Writes) && x.Writes[at] != r.Write {
				at++
			}
			if at == len(x.Writes) || seen[r.Write.Key] > 0 {
				t.Fatalf("of %#v: %#v is sent", x, r.Write)
			}
			at++
			seen[r.Write.Key]++
			is(t, l.Sent(), api.OK)
			steps++
		}
		last := map[string]api.Write{}
		for _, w := range x.Writes {
			last[w.Key] = w
		}
		if len(seen) != len(last) || steps != 2*len(last) {
			t.Fatalf("of %#v: %d keys were sent, by %d steps", x, len(seen), steps)
		}
		some += steps
		done(t, l, x.Number)
	}
	if some < 10000 {
		t.Errorf("only %d steps", some)
	}
}

// FuzzLane: each byte is a call; those that take have the writes that follow, of few keys.
func FuzzLane(f *testing.F) {
	f.Add(uint8(0), uint8(0), []byte{0x43, 1, 2, 0x81, 4, 5, 6, 5, 4, 5, 6, 6, 7})
	f.Add(uint8(3), uint8(2), []byte{0, 7, 0x21, 9, 4, 5, 5, 7, 0x31, 0x11, 0x11, 0x11, 4, 5, 7})
	f.Fuzz(func(t *testing.T, number, shards uint8, calls []byte) {
		n := 1 + int(number)%api.MaxLanes
		x := newPair(t, n, sized(n, 1+int(shards)%api.MaxShards))
		for len(calls) > 0 {
			b := calls[0]
			calls = calls[1:]
			switch b & 7 {
			case 4:
				x.send(t)
			case 5:
				x.acked(t)
			case 6, 7:
				x.done(t)
			default:
				y := api.Txn{Number: int(b>>2) - 2}
				size := min(int(b&63), len(calls))
				for _, k := range calls[:size] {
					w := api.Write{Key: strings.Repeat("k", int(k&7)+min(int(k), 1)), Drop: k&8 != 0}
					if !w.Drop || k > 250 { // so that few alone may not be
						w.Val = strings.Repeat("v", int(k>>5))
					}
					y.Writes = append(y.Writes, w)
				}
				calls = calls[size:]
				x.take(t, y)
			}
			x.look(t)
		}
	})
}
