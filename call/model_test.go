package call_test

import (
	"math"
	"math/rand"
	"slices"
	"strconv"
	"testing"

	"towpath/api"
	"towpath/call"
	"towpath/conf"
	"towpath/owner"
)

// ask is a request, and its shard.
type ask struct {
	shard int
	r     api.Req
}

// plain is a task by the chapter's words: all its requests, how many of them were asked, and the replies, whole.
type plain struct {
	number  int
	c       api.Config
	x       api.Call
	begun   bool
	mark    int
	row     []ask
	asked   int
	replies []api.Resp
}

// keyMay: may it be, by DOC.md's words?
func keyMay(key string) bool { return len(key) >= 1 && len(key) <= 64 }

// callMay: what its row names is taken out of it, and nothing must be left then.
func callMay(x api.Call) bool {
	switch x.Kind {
	case api.CallGet:
		if !keyMay(x.Key) {
			return false
		}
		x.Key = ""
	case api.CallScan:
		if x.Key != "" && !keyMay(x.Key) || x.End != "" && !keyMay(x.End) {
			return false
		}
		x.Key, x.End = "", ""
	case api.CallCollect, api.CallSave:
	default:
		return false
	}
	return x.Key+x.End == ""
}

// newPlain: what New must answer.
func newPlain(number int, c api.Config, x api.Call) (*plain, api.Errno) {
	if number > -1 {
		return nil, api.ErrArg
	}
	for _, n := range [][2]int{{c.Lanes, 16}, {c.Shards, 16}, {c.Window, 64}, {c.Queue, 16}} {
		if n[0] < 1 || n[0] > n[1] {
			return nil, api.ErrConfig
		}
	}
	if !callMay(x) {
		return nil, api.ErrArg
	}
	return &plain{number: number, c: c, x: x}, api.OK
}

// begin: what Begin must answer.
func (p *plain) begin(mark, least int, beyond []int) api.Errno {
	if p.begun {
		return api.ErrBusy
	}
	if mark < 0 || mark > 65536 || least < 0 || least > mark {
		return api.ErrArg
	}
	for i, n := range beyond {
		if n <= mark+1 || n > 65536 || i > 0 && n <= beyond[i-1] {
			return api.ErrArg
		}
	}
	p.begun, p.mark = true, mark
	for shard := range p.c.Shards {
		a := ask{shard, api.Req{From: p.number}}
		switch p.x.Kind {
		case api.CallGet:
			if home, _ := conf.Shard(p.c, p.x.Key); home != shard {
				continue
			}
			a.r.Kind, a.r.Number, a.r.Key = api.ReqGet, mark, p.x.Key
		case api.CallScan:
			a.r.Kind, a.r.Number, a.r.Key, a.r.End = api.ReqScan, mark, p.x.Key, p.x.End
		case api.CallCollect:
			a.r.Kind, a.r.Number = api.ReqCollect, least
		case api.CallSave:
			a.r.Kind, a.r.Number, a.r.Beyond = api.ReqDump, mark, slices.Clone(beyond)
		}
		p.row = append(p.row, a)
	}
	return api.OK
}

// sent: what Sent must answer.
func (p *plain) sent() api.Errno {
	if p.asked == len(p.row) {
		return api.ErrIdle
	}
	p.asked++
	return api.OK
}

// got: what Got must answer.
func (p *plain) got(r api.Resp) api.Errno {
	if len(p.replies) == p.asked {
		return api.ErrIdle
	}
	if r.To != p.number {
		return api.ErrArg
	}
	p.replies = append(p.replies, r)
	return api.OK
}

// all: what All must answer.
func (p *plain) all() bool { return p.begun && len(p.replies) == len(p.row) }

// laid: the list with one more, behind all whose key is not above its own.
func laid[T any](l []T, one T, key func(T) string) []T {
	at := len(l)
	for at > 0 && key(l[at-1]) > key(one) {
		at--
	}
	return slices.Insert(l, at, one)
}

// answer: what Answer must answer.
func (p *plain) answer() (api.Answer, []api.Held, api.Errno) {
	if !p.all() {
		return api.Answer{}, nil, api.ErrOrder
	}
	a := api.Answer{Mark: p.mark, OK: true}
	var l []api.Held
	for _, r := range p.replies {
		switch p.x.Kind {
		case api.CallGet:
			if a.OK = len(r.Entries) == 1; a.OK {
				a.Entries = r.Entries
			}
		case api.CallScan:
			for _, e := range r.Entries {
				a.Entries = laid(a.Entries, e, func(e api.Entry) string { return e.Key })
			}
		case api.CallCollect:
			a.Count = int(uint(a.Count) + uint(r.Count))
		case api.CallSave:
			for _, h := range r.Held {
				l = laid(l, h, func(h api.Held) string { return h.Key })
			}
		}
	}
	return a, l, api.OK
}

// pair is a task and the plain one, that are asked the same; it counts what came of it.
type pair struct {
	k     *call.Task
	p     *plain
	codes map[api.Errno]int
}

// newPair: both, or nil, if both answer the same error.
func newPair(t testing.TB, number int, c api.Config, x api.Call) (*pair, api.Errno) {
	t.Helper()
	k, e := call.New(number, c, x)
	p, wrong := newPlain(number, c, x)
	if e != wrong || (k == nil) != (p == nil) {
		t.Fatalf("New(%d, %v, %.200v) = %v, %v, want %v", number, c, x, k, e, wrong)
	}
	if may := call.Check(x) == api.OK; may != callMay(x) {
		t.Fatalf("Check(%.200v) = %v", x, may)
	}
	if e != api.OK {
		return nil, e
	}
	return &pair{k: k, p: p, codes: map[api.Errno]int{}}, api.OK
}

// code: are both answers the same?
func (x *pair) code(t testing.TB, which string, e, wrong api.Errno) {
	t.Helper()
	if e != wrong {
		t.Fatalf("%s = %v, want %v", which, e, wrong)
	}
	x.codes[e]++
}

func (x *pair) begin(t testing.TB, mark, least int, beyond []int) {
	t.Helper()
	x.code(t, "Begin", x.k.Begin(mark, least, beyond), x.p.begin(mark, least, beyond))
}

func (x *pair) sent(t testing.TB) {
	t.Helper()
	x.code(t, "Sent", x.k.Sent(), x.p.sent())
}

func (x *pair) got(t testing.TB, r api.Resp) {
	t.Helper()
	x.code(t, "Got", x.k.Got(r), x.p.got(r))
}

// look: do both tell the same?
func (x *pair) look(t testing.TB) {
	t.Helper()
	var want ask
	more := x.p.asked < len(x.p.row)
	if more {
		want = x.p.row[x.p.asked]
	}
	if shard, r, ok := x.k.Next(); ok != more || shard != want.shard || !sameReq(r, want.r) {
		t.Fatalf("Next = %d, %+v, %v, want %+v, %v", shard, r, ok, want, more)
	}
	if all := x.k.All(); all != x.p.all() {
		t.Fatalf("All = %v", all)
	}
	if m, ok := x.k.Mark(); m != x.p.mark || ok != x.p.begun {
		t.Fatalf("Mark = %d, %v, want %d, %v", m, ok, x.p.mark, x.p.begun)
	}
	a, l, e := x.k.Answer()
	b, m, wrong := x.p.answer()
	if e != wrong || !sameAnswer(a, b) || !sameHeld(l, m) {
		t.Fatalf("Answer = %+v, %+v, %v, want %+v, %+v, %v", a, l, e, b, m, wrong)
	}
}

// oneOf: one of these, by the dice.
func oneOf[T any](dice *rand.Rand, l ...T) T { return l[dice.Intn(len(l))] }

// someKey: few, so that they meet; two of them may be no keys, but stand in replies.
func someKey(dice *rand.Rand) string {
	return oneOf(dice, "", "A", "a", "ab", "b", "\xff", long(64), long(65))
}

// someCall: by the dice, one that may be mostly.
func someCall(dice *rand.Rand) api.Call {
	switch dice.Intn(9) {
	case 0, 1:
		return get(someKey(dice))
	case 2, 3:
		return scan(someKey(dice), someKey(dice))
	case 4, 5:
		return collect()
	case 6, 7:
		return save()
	}
	return api.Call{Kind: api.CallKind(dice.Intn(6)), Key: someKey(dice), End: someKey(dice)}
}

// someConfig: by the dice, one that may be mostly.
func someConfig(dice *rand.Rand) api.Config {
	c := api.Config{Lanes: 1 + dice.Intn(16), Shards: 1 + dice.Intn(5), Window: 1 + dice.Intn(64), Queue: 1 + dice.Intn(16)}
	switch dice.Intn(10) {
	case 0:
		c.Shards = 1 + dice.Intn(17)
	case 1:
		c = api.Config{Lanes: dice.Intn(18), Shards: dice.Intn(18), Window: dice.Intn(67), Queue: dice.Intn(18)}
	}
	return c
}

// someBeyond: by the dice, numbers beyond a mark that may be mostly.
func someBeyond(dice *rand.Rand, mark int) []int {
	var l []int
	for n := mark + 2; n <= mark+12; n++ {
		if dice.Intn(3) == 0 {
			l = append(l, n)
		}
	}
	switch spoilt := dice.Intn(12); {
	case spoilt == 0:
		l = append(l, oneOf(dice, mark+1, mark+12, mark+13, api.MaxLog, api.MaxLog+1))
	case spoilt == 1 && len(l) > 1:
		l[dice.Intn(len(l))] = mark + dice.Intn(14)
	case spoilt == 2:
		l = append([]int{mark + 1}, l...)
	}
	return l
}

// someReply: by the dice, whatever a reply may have, to that task mostly.
func someReply(dice *rand.Rand, number int) api.Resp {
	r := api.Resp{To: number, OK: dice.Intn(2) == 0, Count: oneOf(dice, 0, 1, 2, 3, -1, math.MaxInt, math.MinInt)}
	if dice.Intn(5) == 0 {
		r.To = oneOf(dice, 0, 1, number-1, number+1, -number)
	}
	for range oneOf(dice, 0, 1, 1, 2, 5) {
		r.Entries = append(r.Entries, api.Entry{Key: someKey(dice), Val: strconv.Itoa(dice.Intn(100))})
	}
	for range oneOf(dice, 0, 1, 1, 2, 5) {
		h := held(someKey(dice))
		for range dice.Intn(4) {
			h.Versions = append(h.Versions, oneOf(dice, set(dice.Intn(9), "x"), gone(dice.Intn(9))))
		}
		r.Held = append(r.Held, h)
	}
	return r
}

// step asks both for one thing, by the dice.
func (x *pair) step(t testing.TB, dice *rand.Rand) {
	t.Helper()
	switch dice.Intn(8) {
	case 0, 1:
		mark := oneOf(dice, 0, 1, dice.Intn(20), api.MaxLog-13, api.MaxLog-1, api.MaxLog, api.MaxLog+1, -1)
		x.begin(t, mark, oneOf(dice, mark, mark, dice.Intn(max(mark+1, 1)), mark+1, -1), someBeyond(dice, mark))
	case 2, 3, 4:
		x.sent(t)
	default:
		x.got(t, someReply(dice, x.p.number))
	}
}

// All promises, by dice: calls in any order are answered as the chapter's words say.
func TestAgainstPlainTask(t *testing.T) {
	dice := rand.New(rand.NewSource(17))
	made, codes := map[api.Errno]int{}, map[api.Errno]int{}
	whole, filled := map[api.CallKind]int{}, map[api.CallKind]int{}
	for range 6000 {
		x, e := newPair(t, oneOf(dice, -1, -2, -32, -1-dice.Intn(1<<20), math.MinInt, -5, -6, -7, 0, 1), someConfig(dice), someCall(dice))
		if made[e]++; e != api.OK {
			continue
		}
		for range 20 + dice.Intn(30) {
			x.step(t, dice)
			x.look(t)
		}
		for e, n := range x.codes {
			codes[e] += n
		}
		if a, l, e := x.k.Answer(); e == api.OK {
			whole[x.p.x.Kind]++
			if len(a.Entries)+len(l) > 0 || a.Count != 0 {
				filled[x.p.x.Kind]++
			}
		}
	}
	for _, e := range []api.Errno{api.OK, api.ErrArg, api.ErrConfig} {
		if made[e] < 150 {
			t.Errorf("New: %v", made)
		}
	}
	for _, e := range []api.Errno{api.OK, api.ErrArg, api.ErrBusy, api.ErrIdle} {
		if codes[e] < 3000 {
			t.Errorf("the others: %v", codes)
		}
	}
	for kind := api.CallGet; kind <= api.CallSave; kind++ {
		if whole[kind] < 300 || filled[kind] < 150 {
			t.Errorf("kind %d: %d answers, %d with something", kind, whole[kind], filled[kind])
		}
	}
}

// lists: parts of the bytes, as replies' lists.
func lists(b []byte) api.Resp {
	r := api.Resp{To: -1}
	for i, n := range b {
		key := string(rune('a' + n%5))
		r.Count = r.Count<<8 | int(n)
		if n&64 != 0 {
			r.Entries = append(r.Entries, api.Entry{Key: key, Val: strconv.Itoa(i)})
		}
		if n&128 != 0 {
			r.Held = append(r.Held, held(key, set(i, "v"), gone(int(n))))
		}
	}
	return r
}

// FuzzTask: the bytes are steps; those of a Begin or of a reply have some of those that follow.
func FuzzTask(f *testing.F) {
	f.Add(uint8(1), uint8(2), "a", "", []byte{0, 3, 3, 0, 1, 2, 1, 200})
	f.Add(uint8(2), uint8(3), "a", "b", []byte{0, 3, 3, 0, 1, 1, 1, 2, 3, 200, 65, 66, 2, 2, 77, 99, 2, 0})
	f.Add(uint8(3), uint8(2), "", "", []byte{0, 9, 3, 0, 1, 2, 8, 1, 2, 3, 4, 5, 6, 7, 8, 1, 2, 8, 255, 255, 255, 255, 255, 255, 255, 255})
	f.Add(uint8(4), uint8(2), "", "", []byte{0, 3, 3, 2, 2, 1, 1, 1, 2, 3, 200, 129, 130, 2, 1, 200})
	f.Fuzz(func(t *testing.T, kind, shards uint8, key, end string, steps []byte) {
		x, e := newPair(t, -1, sized(int(shards)), api.Call{Kind: api.CallKind(kind), Key: key, End: end})
		if e != api.OK || len(steps) > 2000 {
			return
		}
		take := func(n int) []byte {
			part := steps[:min(n, len(steps))]
			steps = steps[len(part):]
			return part
		}
		for len(steps) > 0 {
			switch take(1)[0] % 3 {
			case 0:
				var b [3]byte
				copy(b[:], take(3))
				mark := int(b[0]) - 1
				var beyond []int
				for i, n := range take(int(b[2] % 8)) {
					beyond = append(beyond, mark+2+i*3+int(n%4))
				}
				x.begin(t, mark, int(b[1])-1, beyond)
			case 1:
				x.sent(t)
			case 2:
				var b [1]byte
				copy(b[:], take(1))
				r := lists(take(int(b[0] % 16)))
				r.To -= int(b[0] >> 7)
				x.got(t, r)
			}
			x.look(t)
		}
	})
}

// fleet: owners of all shards of a configuration.
type fleet struct {
	c      api.Config
	owners []*owner.Owner
}

// someFleet: k1 to k60 are written by the transactions 1 to 60, and again, or dropped, by 61 to 120.
func someFleet(t *testing.T, shards int) fleet {
	t.Helper()
	f := fleet{c: sized(shards)}
	for shard := range shards {
		o, e := owner.New(shard, 1, nil)
		if e != api.OK {
			t.Fatal(e)
		}
		f.owners = append(f.owners, o)
	}
	for n := 1; n <= 120; n++ {
		w := api.Write{Key: "k" + strconv.Itoa((n-1)%60+1), Val: strconv.Itoa(n)}
		if n > 60 && n%3 == 0 {
			w.Val, w.Drop = "", true
		}
		shard, _ := conf.Shard(f.c, w.Key)
		f.serve(t, shard, api.Req{Kind: api.ReqInstall, From: 1, Number: n, Write: w})
	}
	return f
}

// serve: an owner takes the request, and replies.
func (f fleet) serve(t *testing.T, shard int, r api.Req) api.Resp {
	t.Helper()
	if ok, e := f.owners[shard].Ask(r); !ok || e != api.OK {
		t.Fatalf("Ask(%+v) = %v, %v", r, ok, e)
	}
	reply, e := f.owners[shard].Serve()
	if e != api.OK {
		t.Fatal(e)
	}
	return reply
}

// run: a call from its beginning to its answer.
func (f fleet) run(t *testing.T, x api.Call, mark, least int, beyond ...int) (api.Answer, []api.Held) {
	t.Helper()
	k := made(t, -1, f.c, x)
	is(t, k.Begin(mark, least, beyond), api.OK)
	for {
		shard, r, ok := k.Next()
		if !ok {
			break
		}
		is(t, k.Sent(), api.OK)
		is(t, k.Got(f.serve(t, shard, r)), api.OK)
	}
	a, l, e := k.Answer()
	is(t, e, api.OK)
	return a, l
}

// P17.8: owners take what a call asks, and what they reply comes out rising, and the same of any number of shards.
func TestCallsOfOwners(t *testing.T) {
	one := someFleet(t, 1)
	for shards := 2; shards <= api.MaxShards; shards++ {
		f := someFleet(t, shards)
		same := func(x api.Call, mark, least int, beyond ...int) {
			t.Helper()
			a, l := f.run(t, x, mark, least, beyond...)
			b, m := one.run(t, x, mark, least, beyond...)
			if !sameAnswer(a, b) || !sameHeld(l, m) || a.Mark != mark {
				t.Errorf("%d shards: %+v, %+v, and of one: %+v, %+v", shards, a, l, b, m)
			}
			for i := 1; i < len(a.Entries); i++ {
				rises(t, a.Entries[i-1].Key, a.Entries[i].Key)
			}
			for i := 1; i < len(l); i++ {
				rises(t, l[i-1].Key, l[i].Key)
			}
		}
		for _, mark := range []int{0, 1, 30, 60, 61, 100, 120, 200} {
			same(scan("", ""), mark, 0)
			same(scan("k2", "k4"), mark, mark)
			same(save(), mark, 0, mark+2, mark+3, mark+5)
			for _, key := range []string{"k1", "k3", "k30", "k60", "k61"} {
				same(get(key), mark, mark)
			}
		}
	}
	count, _ := someFleet(t, 16).run(t, collect(), 120, 90)
	if count.Count != 30 || !count.OK || count.Mark != 120 {
		t.Errorf("Collect: %+v", count)
	}
}

// rises: is the first one below the other?
func rises(t *testing.T, a, b string) {
	t.Helper()
	if a >= b {
		t.Errorf("%q stands ahead of %q", a, b)
	}
}
