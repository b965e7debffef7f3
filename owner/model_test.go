package owner_test

import (
	"math/rand"
	"slices"
	"strings"
	"testing"

	"towpath/api"
	"towpath/owner"
)

// fact: a key has this version.
type fact struct {
	key string
	v   api.Version
}

// plain is an owner by the chapter's words: requests that wait, and facts, in no order.
type plain struct {
	queue int
	waits []api.Req
	facts []fact
}

// mayWrite: may the write be, by DOC.md's words?
func mayWrite(w api.Write) bool {
	return len(w.Key) >= 1 && len(w.Key) <= 64 && len(w.Val) <= 1024 && (!w.Drop || len(w.Val) == 0)
}

// may: may the request be? What its row names is taken out of it, and nothing must be left then.
func may(r api.Req) bool {
	if r.From == 0 || r.Number > 65536 || r.Number < 0 {
		return false
	}
	keyMay := func(k string) bool { return mayWrite(api.Write{Key: k}) }
	switch r.Kind {
	case api.ReqInstall:
		if r.From < 0 || r.Number == 0 || !mayWrite(r.Write) {
			return false
		}
		r.Write = api.Write{}
	case api.ReqGet:
		if !keyMay(r.Key) {
			return false
		}
		r.Key = ""
	case api.ReqScan:
		if r.Key != "" && !keyMay(r.Key) || r.End != "" && !keyMay(r.End) {
			return false
		}
		r.Key, r.End = "", ""
	case api.ReqCollect:
	case api.ReqDump:
		for i, n := range r.Beyond {
			if n <= r.Number || n > 65536 || i > 0 && n <= r.Beyond[i-1] {
				return false
			}
		}
		r.Beyond = nil
	default:
		return false
	}
	return r.Key+r.End+r.Write.Key+r.Write.Val == "" && !r.Write.Drop && len(r.Beyond) == 0
}

// ask: what Ask must answer.
func (p *plain) ask(r api.Req) (bool, api.Errno) {
	if !may(r) {
		return false, api.ErrArg
	}
	if len(p.waits) == p.queue {
		return false, api.OK
	}
	p.waits = append(p.waits, r)
	return true, api.OK
}

// newest: is the fact that of its key with the greatest number of at most the mark?
func (p *plain) newest(f fact, mark int) bool {
	return f.v.Number <= mark && !slices.ContainsFunc(p.facts, func(o fact) bool {
		return o.key == f.key && o.v.Number > f.v.Number && o.v.Number <= mark
	})
}

// entries: of the facts whose key is one of these, those that have a value at the mark.
func (p *plain) entries(is func(key string) bool, mark int) []api.Entry {
	var l []api.Entry
	for _, f := range p.facts {
		if is(f.key) && p.newest(f, mark) && !f.v.Drop {
			l = append(l, api.Entry{Key: f.key, Val: f.v.Val})
		}
	}
	slices.SortFunc(l, func(a, b api.Entry) int { return strings.Compare(a.Key, b.Key) })
	return l
}

// held: the facts that are so, by rising keys and numbers.
func (p *plain) held(is func(f fact) bool) []api.Held {
	var l []api.Held
	for _, f := range p.facts {
		if !is(f) {
			continue
		}
		at := slices.IndexFunc(l, func(h api.Held) bool { return h.Key == f.key })
		if at < 0 {
			at = len(l)
			l = append(l, held(f.key))
		}
		l[at].Versions = append(l[at].Versions, f.v)
	}
	for _, h := range l {
		slices.SortFunc(h.Versions, func(a, b api.Version) int { return a.Number - b.Number })
	}
	slices.SortFunc(l, func(a, b api.Held) int { return strings.Compare(a.Key, b.Key) })
	return l
}

// install: what the reply to an install must be.
func (p *plain) install(r api.Req) api.Resp {
	for _, f := range p.facts {
		if f.key == r.Write.Key && f.v.Number == r.Number {
			return api.Resp{To: r.From}
		}
	}
	p.facts = append(p.facts, fact{r.Write.Key, api.Version{Number: r.Number, Val: r.Write.Val, Drop: r.Write.Drop}})
	return api.Resp{To: r.From, OK: true}
}

// collect: what the reply to a collect must be.
func (p *plain) collect(r api.Req) api.Resp {
	var kept []fact
	for _, f := range p.facts {
		if f.v.Number > r.Number || p.newest(f, r.Number) {
			kept = append(kept, f)
		}
	}
	n := len(p.facts) - len(kept)
	p.facts = kept
	return api.Resp{To: r.From, OK: true, Count: n}
}

// serve: what Serve must answer, and of which kind the request was.
func (p *plain) serve() (api.ReqKind, api.Resp, api.Errno) {
	if len(p.waits) == 0 {
		return api.ReqNone, api.Resp{}, api.ErrIdle
	}
	r := p.waits[0]
	p.waits = p.waits[1:]
	reply := api.Resp{To: r.From, OK: true}
	switch r.Kind {
	case api.ReqInstall:
		reply = p.install(r)
	case api.ReqGet:
		reply.Entries = p.entries(func(key string) bool { return key == r.Key }, r.Number)
		reply.OK = len(reply.Entries) == 1
	case api.ReqScan:
		reply.Entries = p.entries(func(key string) bool { return key >= r.Key && (r.End == "" || key < r.End) }, r.Number)
	case api.ReqCollect:
		reply = p.collect(r)
	case api.ReqDump:
		reply.Held = p.held(func(f fact) bool {
			return p.newest(f, r.Number) && !f.v.Drop || slices.Contains(r.Beyond, f.v.Number)
		})
	}
	return r.Kind, reply, api.OK
}

// pair is an owner and the plain one, that are asked the same; it counts what came of it.
type pair struct {
	o                    *owner.Owner
	p                    *plain
	refused, full, idle  int
	served, good, filled [api.ReqDump + 1]int // by kinds: replies; those that were OK; those that had something
}

func newPair(t *testing.T, queue int) *pair {
	t.Helper()
	return &pair{o: made(t, queue), p: &plain{queue: queue}}
}

// ask asks both.
func (x *pair) ask(t *testing.T, r api.Req) {
	t.Helper()
	ok, e := x.o.Ask(r)
	want, wrong := x.p.ask(r)
	if ok != want || e != wrong {
		t.Fatalf("Ask(%#v) = %v, %v, want %v, %v", r, ok, e, want, wrong)
	}
	if e != api.OK {
		x.refused++
	} else if !ok {
		x.full++
	}
}

// serve serves both.
func (x *pair) serve(t *testing.T) {
	t.Helper()
	got, e := x.o.Serve()
	kind, want, wrong := x.p.serve()
	if e != wrong || !sameReply(got, want) {
		t.Fatalf("Serve = %+v, %v, want %+v, %v", got, e, want, wrong)
	}
	if e != api.OK {
		x.idle++
		return
	}
	x.served[kind]++
	if got.OK {
		x.good[kind]++
	}
	if len(got.Entries)+len(got.Held)+got.Count > 0 {
		x.filled[kind]++
	}
}

// look: do both tell the same?
func (x *pair) look(t *testing.T) {
	t.Helper()
	waiting(t, x.o, len(x.p.waits), x.p.queue-len(x.p.waits))
	has(t, x.o, x.p.held(func(fact) bool { return true })...)
	if t.Failed() {
		t.FailNow()
	}
}

// someKeys: few, so that they meet; one is the beginning of another, one is above all ASCII.
func someKeys() []string { return []string{"A", "a", "ab", "b", "\xff"} }

// oneOf: one of these, by the dice.
func oneOf[T any](dice *rand.Rand, l []T) T { return l[dice.Intn(len(l))] }

// most is the greatest number that the dice take, but for wrong ones.
const most = 12

// someReq: by the dice, one that may be.
func someReq(dice *rand.Rand) api.Req {
	bounds := append(someKeys(), "", "", "a\x00", "z")
	call := -1 - dice.Intn(32)
	mark := dice.Intn(most + 1)
	switch dice.Intn(10) {
	default:
		w := drop(oneOf(dice, someKeys()))
		if dice.Intn(3) > 0 {
			w = put(w.Key, oneOf(dice, []string{"", "x", "y", "zz"}))
		}
		return api.Req{Kind: api.ReqInstall, From: 1 + dice.Intn(16), Number: 1 + dice.Intn(most), Write: w}
	case 6:
		return api.Req{Kind: api.ReqGet, From: call, Number: mark, Key: oneOf(dice, someKeys())}
	case 7:
		return api.Req{Kind: api.ReqScan, From: call, Number: mark, Key: oneOf(dice, bounds), End: oneOf(dice, bounds)}
	case 8:
		return api.Req{Kind: api.ReqCollect, From: call, Number: dice.Intn(mark + 1)}
	case 9:
		r := api.Req{Kind: api.ReqDump, From: call, Number: mark}
		for n := mark + 1; n <= most; n++ {
			if dice.Intn(2) == 0 {
				r.Beyond = append(r.Beyond, n)
			}
		}
		return r
	}
}

// spoiltReq: by the dice, one with a field of another one, which it may not have mostly.
func spoiltReq(dice *rand.Rand) api.Req {
	r, other := someReq(dice), someReq(dice)
	switch dice.Intn(8) {
	case 0:
		r.Kind = oneOf(dice, []api.ReqKind{other.Kind, api.ReqNone, api.ReqDump + 1, 255})
	case 1:
		r.From = oneOf(dice, []int{0, other.From, -other.From})
	case 2:
		r.Number = oneOf(dice, []int{-1, 0, api.MaxLog + 1, -r.Number, r.Number + 1<<32})
	case 3:
		r.Write = oneOf(dice, []api.Write{other.Write, {}, {Drop: true}, {Key: "a", Val: "x", Drop: true}})
	case 4:
		r.Key = oneOf(dice, []string{other.Key, "", "a", strings.Repeat("k", 64), strings.Repeat("k", 65)})
	case 5:
		r.End = oneOf(dice, []string{other.End, "", "a", strings.Repeat("k", 64), strings.Repeat("k", 65)})
	case 6:
		r.Beyond = other.Beyond
	case 7:
		r.Beyond = append(r.Beyond, oneOf(dice, []int{-1, 0, 1, most, most + 1, api.MaxLog, api.MaxLog + 1}))
	}
	return r
}

// All promises, by dice: calls in any order are answered as the chapter's words say.
func TestAgainstPlainOwner(t *testing.T) {
	dice := rand.New(rand.NewSource(15))
	var served, good, filled [api.ReqDump + 1]int
	refused, full, idle := 0, 0, 0
	for range 300 {
		x := newPair(t, 1+dice.Intn(api.MaxQueue))
		busy := 3 + dice.Intn(4) // of ten calls so many ask: some queues are full mostly, some empty
		for range 200 {
			switch {
			case dice.Intn(10) >= busy:
				x.serve(t)
			case dice.Intn(5) == 0:
				x.ask(t, spoiltReq(dice))
			default:
				x.ask(t, someReq(dice))
			}
			x.look(t)
		}
		refused, full, idle = refused+x.refused, full+x.full, idle+x.idle
		for k := range served {
			served[k], good[k], filled[k] = served[k]+x.served[k], good[k]+x.good[k], filled[k]+x.filled[k]
		}
	}
	if refused < 1000 || full < 1000 || idle < 1000 {
		t.Errorf("%d refused, %d without room, %d idle", refused, full, idle)
	}
	for k := api.ReqInstall; k <= api.ReqDump; k++ {
		if good[k] < 500 || k != api.ReqInstall && filled[k] < 500 {
			t.Errorf("kind %d: %d served, %d OK, %d with something", k, served[k], good[k], filled[k])
		}
	}
	if served[api.ReqInstall]-good[api.ReqInstall] < 500 || served[api.ReqGet]-good[api.ReqGet] < 500 {
		t.Errorf("too few that are not OK: %v, %v", served, good)
	}
}

// reqOf: a request made of bytes, that may be or not.
func reqOf(b [6]byte) api.Req {
	r := api.Req{Kind: api.ReqKind(b[0] % 7), From: int(int8(b[1])), Number: int(b[2]%20) - 1}
	text := func(n byte) string { return strings.Repeat("k", int(n%4)) + someKeys()[n%5] }
	switch r.Kind {
	case api.ReqInstall:
		r.Write = api.Write{Key: text(b[3])[min(int(b[4]>>7), 1):], Drop: b[4]&1 != 0}
		if b[4]&1 == 0 || b[4]&64 != 0 {
			r.Write.Val = strings.Repeat("v", int(b[5]%3))
		}
	case api.ReqGet, api.ReqScan:
		r.Key = text(b[3])
		if r.Kind == api.ReqScan || b[4] > 250 {
			r.End = text(b[4])
		}
	case api.ReqDump:
		for i := range 8 {
			if b[3]>>i&1 != 0 {
				r.Beyond = append(r.Beyond, r.Number+1+i)
			}
		}
		if b[4] > 250 {
			slices.Reverse(r.Beyond)
		}
	}
	return r
}

// FuzzOwner: a byte of a call; those that ask have the bytes that follow.
func FuzzOwner(f *testing.F) {
	f.Add(uint8(1), []byte{0, 1, 1, 3, 1, 0, 1, 0, 1, 1, 5, 1, 0, 2, 7, 7, 0, 2, 255, 9, 1, 0, 0, 7, 0, 5, 254, 4, 7, 0, 0, 7})
	f.Add(uint8(3), []byte{0, 1, 1, 2, 2, 2, 2, 7, 0, 1, 2, 7, 2, 1, 0, 7, 0, 3, 200, 9, 0, 4, 0, 7, 0, 4, 200, 9, 0, 0, 0, 7})
	f.Fuzz(func(t *testing.T, queue uint8, calls []byte) {
		if len(calls) > 2000 {
			return
		}
		x := newPair(t, 1+int(queue)%api.MaxQueue)
		for len(calls) > 0 {
			serve := calls[0]%8 == 7
			calls = calls[1:]
			if serve {
				x.serve(t)
			} else {
				var b [6]byte
				calls = calls[copy(b[:], calls):]
				x.ask(t, reqOf(b))
			}
			x.look(t)
		}
	})
}
