package call_test

import (
	"math"
	"reflect"
	"slices"
	"strings"
	"testing"

	"towpath/api"
	"towpath/call"
	"towpath/conf"
)

// sized: a configuration of so many shards.
func sized(shards int) api.Config {
	return api.Config{Lanes: 1, Shards: shards, Window: 4, Queue: 1}
}

// get, scan, collect, save: calls.
func get(key string) api.Call { return api.Call{Kind: api.CallGet, Key: key} }

func scan(key, end string) api.Call { return api.Call{Kind: api.CallScan, Key: key, End: end} }

func collect() api.Call { return api.Call{Kind: api.CallCollect} }

func save() api.Call { return api.Call{Kind: api.CallSave} }

// oneOfEach: a call of each kind.
func oneOfEach() []api.Call {
	return []api.Call{get("a"), scan("", ""), scan("b", "d"), collect(), save()}
}

// made: a task; there must be one.
func made(t testing.TB, number int, c api.Config, x api.Call) *call.Task {
	t.Helper()
	k, e := call.New(number, c, x)
	if k == nil || e != api.OK {
		t.Fatalf("New(%d, %v, %.200v) = %v, %v", number, c, x, k, e)
	}
	return k
}

// notMade: does New answer this error, and no task?
func notMade(t *testing.T, number int, c api.Config, x api.Call, want api.Errno) {
	t.Helper()
	if k, e := call.New(number, c, x); k != nil || e != want {
		t.Errorf("New(%d, %v, %.200v) = %v, %v, want %v", number, c, x, k, e, want)
	}
}

// begun: a task that has, at the mark, which is the least one in use.
func begun(t testing.TB, number int, c api.Config, x api.Call, mark int, beyond ...int) *call.Task {
	t.Helper()
	k := made(t, number, c, x)
	if e := k.Begin(mark, mark, beyond); e != api.OK {
		t.Fatalf("Begin(%d, %d, %v) = %v", mark, mark, beyond, e)
	}
	return k
}

// answered: the first call, begun at the mark 9, of as many shards as there are replies, which it got (but of a Get, of two).
func answered(t testing.TB, x api.Call, replies ...api.Resp) *call.Task {
	t.Helper()
	shards := len(replies)
	if x.Kind == api.CallGet {
		shards = 2
	}
	k := begun(t, -1, sized(shards), x, 9)
	for _, r := range replies {
		r.To = -1
		if sent, got := k.Sent(), k.Got(r); sent != api.OK || got != api.OK {
			t.Fatalf("Sent = %v, Got = %v", sent, got)
		}
	}
	return k
}

// is: was it this error?
func is(t *testing.T, got, want api.Errno) {
	t.Helper()
	if got != want {
		t.Errorf("%v, want %v", got, want)
	}
}

// sameReq: are they the same? An empty list and none are.
func sameReq(a, b api.Req) bool {
	if !slices.Equal(a.Beyond, b.Beyond) {
		return false
	}
	a.Beyond, b.Beyond = nil, nil
	return reflect.DeepEqual(a, b)
}

// sameAnswer: likewise.
func sameAnswer(a, b api.Answer) bool {
	return a.Code == b.Code && a.Mark == b.Mark && a.OK == b.OK && a.Count == b.Count && slices.Equal(a.Entries, b.Entries)
}

// sameHeld: likewise.
func sameHeld(a, b []api.Held) bool {
	return slices.EqualFunc(a, b, func(x, y api.Held) bool { return x.Key == y.Key && slices.Equal(x.Versions, y.Versions) })
}

// next: does Next answer this shard, and this request?
func next(t *testing.T, k *call.Task, shard int, want api.Req) {
	t.Helper()
	if s, r, ok := k.Next(); s != shard || !sameReq(r, want) || !ok {
		t.Errorf("Next = %d, %#v, %v, want %d, %#v", s, r, ok, shard, want)
	}
}

// noNext: does Next answer that there is none, and nothing else?
func noNext(t *testing.T, k *call.Task) {
	t.Helper()
	if s, r, ok := k.Next(); s != 0 || !reflect.DeepEqual(r, api.Req{}) || ok {
		t.Errorf("Next = %d, %#v, %v, want none", s, r, ok)
	}
}

// all: are all replies there, or not?
func all(t *testing.T, k *call.Task, want bool) {
	t.Helper()
	if k.All() != want {
		t.Errorf("All = %v", !want)
	}
}

// answers: is this the answer, and these what is held? It is told as often as it is asked.
func answers(t *testing.T, k *call.Task, want api.Answer, held ...api.Held) {
	t.Helper()
	for range 2 {
		if a, l, e := k.Answer(); !sameAnswer(a, want) || !sameHeld(l, held) || e != api.OK {
			t.Errorf("Answer = %+v, %+v, %v, want %+v, %+v", a, l, e, want, held)
		}
	}
}

// noAnswer: does Answer answer this error, and nothing else?
func noAnswer(t *testing.T, k *call.Task, want api.Errno) {
	t.Helper()
	if a, l, e := k.Answer(); !reflect.DeepEqual(a, api.Answer{}) || l != nil || e != want {
		t.Errorf("Answer = %+v, %+v, %v, want %v", a, l, e, want)
	}
}

// mark: did it begin at this one?
func mark(t *testing.T, k *call.Task, want int) {
	t.Helper()
	if m, ok := k.Mark(); m != want || !ok {
		t.Errorf("Mark = %d, %v, want %d", m, ok, want)
	}
}

// notBegun: do all calls but Begin answer as of a task that has not?
func notBegun(t *testing.T, k *call.Task) {
	t.Helper()
	noNext(t, k)
	is(t, k.Sent(), api.ErrIdle)
	for _, to := range []int{-1, -2, 0, 1} {
		is(t, k.Got(api.Resp{To: to, OK: true}), api.ErrIdle)
	}
	all(t, k, false)
	noAnswer(t, k, api.ErrOrder)
	if m, ok := k.Mark(); m != 0 || ok {
		t.Errorf("Mark = %d, %v, want none", m, ok)
	}
}

// entries: of keys and values, in turn.
func entries(l ...string) []api.Entry {
	var all []api.Entry
	for i := 0; i < len(l); i += 2 {
		all = append(all, api.Entry{Key: l[i], Val: l[i+1]})
	}
	return all
}

// held: a key with versions.
func held(key string, l ...api.Version) api.Held { return api.Held{Key: key, Versions: l} }

// set: a version with a value.
func set(number int, val string) api.Version { return api.Version{Number: number, Val: val} }

// gone: a version by which the key went.
func gone(number int) api.Version { return api.Version{Number: number, Drop: true} }

// long: a key of so many bytes.
func long(n int) string { return strings.Repeat("k", n) }

// below: ints of all kinds that are below 0.
func below() []int {
	return []int{math.MinInt, math.MinInt + 1, -1 << 32, -1<<32 + 1, -1 << 31, -65537, -65536, -33, -32, -2, -1}
}

// above: ints of all kinds that are above MaxLog.
func above() []int {
	return []int{65537, 65538, 1<<31 - 1, 1 << 31, 1 << 32, 1<<32 + 1, math.MaxInt - 2, math.MaxInt - 1, math.MaxInt}
}

// Each row of the chapter's examples.
func TestExamples(t *testing.T) {
	c := sized(2)
	is(t, call.Check(api.Call{}), api.ErrArg)
	is(t, call.Check(get("")), api.ErrArg)
	is(t, call.Check(scan("", "")), api.OK)

	notMade(t, 0, c, collect(), api.ErrArg)
	notMade(t, -1, api.Config{}, collect(), api.ErrConfig)

	g := made(t, -1, c, get("a"))
	noNext(t, g)
	noAnswer(t, g, api.ErrOrder)
	is(t, g.Begin(2, 2, nil), api.OK)
	is(t, g.Begin(2, 2, nil), api.ErrBusy)

	shard, _ := conf.Shard(c, "a")
	next(t, g, shard, api.Req{Kind: api.ReqGet, From: -1, Number: 2, Key: "a"})
	is(t, g.Sent(), api.OK)
	is(t, g.Sent(), api.ErrIdle)
	noNext(t, g)

	all(t, g, false)
	is(t, g.Got(api.Resp{To: -2}), api.ErrArg)
	is(t, g.Got(api.Resp{To: -1, OK: true, Entries: entries("a", "1")}), api.OK)
	all(t, g, true)
	answers(t, g, api.Answer{Mark: 2, OK: true, Entries: entries("a", "1")})

	s := made(t, -2, c, collect())
	is(t, s.Begin(5, 3, nil), api.OK)
	next(t, s, 0, api.Req{Kind: api.ReqCollect, From: -2, Number: 3})
	is(t, s.Sent(), api.OK)
	next(t, s, 1, api.Req{Kind: api.ReqCollect, From: -2, Number: 3})
	is(t, s.Sent(), api.OK)
	is(t, s.Got(api.Resp{To: -2, Count: 2}), api.OK)
	is(t, s.Got(api.Resp{To: -2, Count: 1}), api.OK)
	answers(t, s, api.Answer{Mark: 5, OK: true, Count: 3})

	v := made(t, -3, c, save())
	is(t, v.Begin(2, 2, []int{3}), api.ErrArg)
	is(t, v.Begin(2, 3, nil), api.ErrArg)
	is(t, v.Begin(4, 4, []int{7, 6}), api.ErrArg)
	is(t, v.Begin(2, 2, []int{4}), api.OK)
	next(t, v, 0, api.Req{Kind: api.ReqDump, From: -3, Number: 2, Beyond: []int{4}})
}

// texts: at and beside the bounds of a key, and of any bytes; may they be?
func texts() map[string]bool {
	return map[string]bool{
		"": false, "a": true, "\x00": true, "\xff\xfe": true, "é": true, " ": true,
		long(63): true, long(64): true, long(65): false, long(1 << 16): false,
		strings.Repeat("é", 32): true, strings.Repeat("é", 33): false, // bytes are counted, not letters
	}
}

// P17.1: the fields of each kind at and beside their bounds.
func TestCheckAtItsBounds(t *testing.T) {
	want := func(ok bool) api.Errno {
		if ok {
			return api.OK
		}
		return api.ErrArg
	}
	for a, isKey := range texts() {
		is(t, call.Check(get(a)), want(isKey))
		for b, isEnd := range texts() {
			is(t, call.Check(scan(a, b)), want((a == "" || isKey) && (b == "" || isEnd)))
			for _, kind := range []api.CallKind{api.CallCollect, api.CallSave} {
				is(t, call.Check(api.Call{Kind: kind, Key: a, End: b}), want(a == "" && b == ""))
			}
			if b != "" {
				is(t, call.Check(api.Call{Kind: api.CallGet, Key: a, End: b}), api.ErrArg)
			}
		}
	}
	is(t, call.Check(scan("b", "a")), api.OK) // a stretch without keys is one
	is(t, call.Check(scan("a", "a")), api.OK)
}

// P17.1: kinds that are none, with whatever fields.
func TestKindsThatAreNone(t *testing.T) {
	for kind := range 256 {
		if api.CallKind(kind) >= api.CallGet && api.CallKind(kind) <= api.CallSave {
			continue
		}
		for _, x := range []api.Call{{}, {Key: "a"}, {End: "a"}, {Key: "a", End: "b"}} {
			x.Kind = api.CallKind(kind)
			is(t, call.Check(x), api.ErrArg)
			notMade(t, -1, sized(1), x, api.ErrArg)
		}
	}
}

// P17.2: every number below 0 is one, and no other; all shards; what is made has not begun.
func TestNewAtItsBounds(t *testing.T) {
	for _, x := range oneOfEach() {
		for _, number := range below() {
			notBegun(t, made(t, number, sized(2), x))
		}
		for _, number := range append(above(), 0, 1, 2, 32, 65536) {
			notMade(t, number, sized(2), x, api.ErrArg)
		}
		for shards := 1; shards <= api.MaxShards; shards++ {
			notBegun(t, made(t, -1, sized(shards), x))
		}
		notBegun(t, made(t, -1, api.Config{Lanes: 16, Shards: 16, Window: 64, Queue: 16}, x))
		notBegun(t, made(t, -1, api.Config{Lanes: 1, Shards: 1, Window: 1, Queue: 1}, x))
	}
}

// wrongConfigs: each of the four wrong, and all.
func wrongConfigs() []api.Config {
	return []api.Config{
		{},
		{Lanes: 0, Shards: 1, Window: 1, Queue: 1}, {Lanes: 17, Shards: 1, Window: 1, Queue: 1},
		{Lanes: 1, Shards: 0, Window: 1, Queue: 1}, {Lanes: 1, Shards: 17, Window: 1, Queue: 1}, {Lanes: 1, Shards: -1, Window: 1, Queue: 1},
		{Lanes: 1, Shards: 1, Window: 0, Queue: 1}, {Lanes: 1, Shards: 1, Window: 65, Queue: 1},
		{Lanes: 1, Shards: 1, Window: 1, Queue: 0}, {Lanes: 1, Shards: 1, Window: 1, Queue: 17},
		{Lanes: math.MinInt, Shards: math.MaxInt, Window: math.MaxInt, Queue: math.MinInt},
	}
}

// wrongCalls: of each kind some that may not be.
func wrongCalls() []api.Call {
	return []api.Call{
		{}, {Key: "a"}, {Kind: 5}, {Kind: 255},
		get(""), get(long(65)), {Kind: api.CallGet, Key: "a", End: "b"}, {Kind: api.CallGet, End: "b"},
		scan(long(65), ""), scan("", long(65)),
		{Kind: api.CallCollect, Key: "a"}, {Kind: api.CallCollect, End: "a"},
		{Kind: api.CallSave, Key: "a"}, {Kind: api.CallSave, End: "a"},
	}
}

// P17.2: the number is asked first, the configuration then, the call last.
func TestNewOfSeveralWrongArguments(t *testing.T) {
	for _, c := range wrongConfigs() {
		for _, x := range append(wrongCalls(), oneOfEach()...) {
			notMade(t, -1, c, x, api.ErrConfig)
			notMade(t, 0, c, x, api.ErrArg)
			notMade(t, math.MaxInt, c, x, api.ErrArg)
		}
	}
	for _, x := range wrongCalls() {
		is(t, call.Check(x), api.ErrArg)
		notMade(t, -1, sized(1), x, api.ErrArg)
		notMade(t, 1, sized(1), x, api.ErrArg)
	}
}

// P17.3: what may be at its bounds, of every kind.
func TestBeginAtItsBounds(t *testing.T) {
	for _, x := range oneOfEach() {
		for _, m := range []int{0, 1, 2, 3, 65533, 65534, 65535, 65536} {
			for _, least := range []int{0, m / 2, m} {
				for _, beyond := range [][]int{nil, {}, {m + 2}, {m + 2, m + 3}, {m + 2, 65536}, {65535, 65536}, {65536}} {
					k := made(t, -1, sized(2), x)
					if slices.Max(append([]int{0}, beyond...)) > 65536 || len(beyond) > 0 && beyond[0] < m+2 || len(beyond) > 1 && beyond[0] >= beyond[1] {
						is(t, k.Begin(m, least, beyond), api.ErrArg)
						notBegun(t, k)
						continue
					}
					is(t, k.Begin(m, least, beyond), api.OK)
					mark(t, k, m)
				}
			}
		}
	}
}

// P17.3, R2: what may not be, of every kind, whether it needs that or not; the task is as it was, and begins then.
func TestBeginOfWrongArguments(t *testing.T) {
	for _, x := range oneOfEach() {
		k := made(t, -1, sized(2), x)
		for _, m := range append(below(), above()...) {
			for _, least := range []int{m, 0, min(m, 1), math.MinInt, math.MaxInt} {
				is(t, k.Begin(m, least, nil), api.ErrArg)
				is(t, k.Begin(m, least, []int{9}), api.ErrArg)
				is(t, k.Begin(m, least, []int{math.MaxInt}), api.ErrArg)
				is(t, k.Begin(m, least, []int{math.MinInt}), api.ErrArg)
			}
		}
		for _, least := range append(append(below(), above()...), 8, 9, 65536) {
			is(t, k.Begin(7, least, nil), api.ErrArg)
			is(t, k.Begin(7, least, []int{9}), api.ErrArg)
		}
		is(t, k.Begin(0, 1, nil), api.ErrArg)
		for _, number := range append(append(below(), above()...), 0, 1, 6, 7, 8) {
			is(t, k.Begin(7, 7, []int{number}), api.ErrArg)
			is(t, k.Begin(7, 7, []int{9, number}), api.ErrArg)
			is(t, k.Begin(7, 7, []int{number, 20}), api.ErrArg)
			is(t, k.Begin(7, 7, []int{9, number, 20}), api.ErrArg)
		}
		for _, beyond := range [][]int{{9, 9}, {10, 9}, {9, 11, 10}, {9, 11, 11}, {9, 10, 11, 9}, {12, 11, 10, 9}} {
			is(t, k.Begin(7, 7, beyond), api.ErrArg)
		}
		for _, number := range []int{65536, 65537, 65538} {
			is(t, k.Begin(65535, 65535, []int{number}), api.ErrArg)
			is(t, k.Begin(65536, 65536, []int{number}), api.ErrArg)
		}
		notBegun(t, k)
		is(t, k.Begin(7, 0, []int{9}), api.OK)
		mark(t, k, 7)
	}
}

// P17.3: ErrBusy goes ahead of ErrArg, at every moment from Begin on; at which mark it began stays, and what it asks.
func TestBeginAgain(t *testing.T) {
	for _, x := range oneOfEach() {
		k := begun(t, -1, sized(2), x, 7, 9, 11)
		again := func() {
			t.Helper()
			is(t, k.Begin(7, 7, []int{9, 11}), api.ErrBusy)
			is(t, k.Begin(8, 3, nil), api.ErrBusy)
			is(t, k.Begin(-1, 9, []int{1, 1}), api.ErrBusy)
			mark(t, k, 7)
		}
		again()
		for {
			again()
			shard, r, ok := k.Next()
			if !ok {
				break
			}
			again()
			next(t, k, shard, r)
			if r.Number != 7 {
				t.Errorf("asks of %d", r.Number)
			}
			is(t, k.Sent(), api.OK)
			again()
			is(t, k.Got(api.Resp{To: -1}), api.OK)
		}
		all(t, k, true)
		again()
	}
}

// P17.3: all numbers that there can be may be beyond.
func TestAllBeyond(t *testing.T) {
	var l []int
	for n := 2; n <= api.MaxLog; n++ {
		l = append(l, n)
	}
	k := begun(t, -1, sized(1), save(), 0, l...)
	next(t, k, 0, api.Req{Kind: api.ReqDump, From: -1, Beyond: l})
	is(t, made(t, -1, sized(1), save()).Begin(0, 0, append(l, api.MaxLog+1)), api.ErrArg)
	is(t, made(t, -1, sized(1), save()).Begin(0, 0, append([]int{1}, l...)), api.ErrArg)
}

// asks: does the task ask these shards, each for this, and then no more? Next and Sent alone count, whether replies come or not.
func asks(t *testing.T, k *call.Task, from int, shards []int, want api.Req) {
	t.Helper()
	for i, shard := range shards {
		for range 3 {
			next(t, k, shard, want)
		}
		is(t, k.Sent(), api.OK)
		if i%2 == 1 {
			is(t, k.Got(api.Resp{To: from}), api.OK)
		}
	}
	for range 2 {
		noNext(t, k)
		is(t, k.Sent(), api.ErrIdle)
	}
}

// to: the numbers from 0 on, as many.
func to(n int) []int {
	l := make([]int, n)
	for i := range l {
		l[i] = i
	}
	return l
}

// P17.3, P17.4, P17.8: the requests of each row, with so many shards, of any number; fields that it does not name are empty.
func TestRequests(t *testing.T) {
	for shards := 1; shards <= api.MaxShards; shards++ {
		c := sized(shards)
		for _, number := range []int{-1, -2, -32, -70000, math.MinInt} {
			start := func(x api.Call) *call.Task {
				k := made(t, number, c, x)
				is(t, k.Begin(50, 20, []int{60, 61, 99}), api.OK)
				return k
			}
			for _, key := range []string{"a", "b", "c", "foobar", "\xff", long(64)} {
				shard, _ := conf.Shard(c, key)
				asks(t, start(get(key)), number, []int{shard}, api.Req{Kind: api.ReqGet, From: number, Number: 50, Key: key})
			}
			for _, x := range []api.Call{scan("", ""), scan("a", ""), scan("", "b"), scan("a", "b"), scan("b", "a"), scan(long(64), long(64))} {
				asks(t, start(x), number, to(shards), api.Req{Kind: api.ReqScan, From: number, Number: 50, Key: x.Key, End: x.End})
			}
			asks(t, start(collect()), number, to(shards), api.Req{Kind: api.ReqCollect, From: number, Number: 20})
			asks(t, start(save()), number, to(shards), api.Req{Kind: api.ReqDump, From: number, Number: 50, Beyond: []int{60, 61, 99}})
		}
	}
}

// P17.3: at the mark 0 requests are of 0; the least mark in use is a Collect's alone.
func TestRequestsAtNought(t *testing.T) {
	for _, x := range oneOfEach() {
		k := begun(t, -5, sized(1), x, 0)
		_, r, ok := k.Next()
		if !ok || r.Number != 0 || r.From != -5 || len(r.Beyond) != 0 {
			t.Errorf("Next = %+v, %v", r, ok)
		}
		k = made(t, -5, sized(1), x)
		is(t, k.Begin(9, 0, nil), api.OK)
		want := 9
		if x.Kind == api.CallCollect {
			want = 0
		}
		if _, r, _ := k.Next(); r.Number != want {
			t.Errorf("of %d, want %d", r.Number, want)
		}
	}
}

// P17.5: ErrIdle goes ahead of ErrArg; neither changes anything; as many replies are taken as were asked.
func TestGotInItsOrder(t *testing.T) {
	for _, x := range oneOfEach() {
		k := made(t, -3, sized(3), x)
		wrong := append(append(below(), above()...), 0, 1, 2, 3, 4)
		wrong = append(slices.DeleteFunc(wrong, func(n int) bool { return n == -3 }), -4, -2, -3-1<<32, math.MaxInt-2)
		idle := func() {
			t.Helper()
			for _, n := range append(wrong, -3) {
				is(t, k.Got(api.Resp{To: n, Count: 7}), api.ErrIdle)
			}
		}
		idle()
		is(t, k.Begin(4, 4, nil), api.OK)
		idle()
		asked := 0
		for k.Sent() == api.OK {
			asked++
			for _, n := range wrong {
				is(t, k.Got(api.Resp{To: n, Count: 7, Entries: entries("z", "z"), Held: []api.Held{held("z")}}), api.ErrArg)
			}
			if asked == 2 { // the second one gets its reply later
				continue
			}
			is(t, k.Got(api.Resp{To: -3, Count: 1}), api.OK)
			if asked == 1 {
				idle()
			}
		}
		if asked > 1 {
			all(t, k, false)
			is(t, k.Got(api.Resp{To: 0}), api.ErrArg)
			is(t, k.Got(api.Resp{To: -3, Count: 1}), api.OK)
		}
		idle()
		all(t, k, true)
		want := api.Answer{Mark: 4, OK: x.Kind != api.CallGet}
		if x.Kind == api.CallCollect {
			want.Count = 3
		}
		answers(t, k, want)
	}
}

// P17.4 to P17.6: in every order in which asking and replies can come, just the last reply of all makes it All.
func TestAllAtEveryMoment(t *testing.T) {
	const shards = 5
	for order := range 1 << (2 * shards) { // a bit of each step: 1 asks, 0 replies
		k := begun(t, -1, sized(shards), collect(), 6)
		asked, replied := 0, 0
		for step := range 2 * shards {
			all(t, k, false)
			noAnswer(t, k, api.ErrOrder)
			reply := api.Resp{To: -1, Count: 1 << replied}
			switch asks := order>>step&1 == 1; {
			case asks && asked == shards:
				is(t, k.Sent(), api.ErrIdle)
			case asks:
				is(t, k.Sent(), api.OK)
				asked++
			case replied == asked:
				is(t, k.Got(reply), api.ErrIdle)
			default:
				is(t, k.Got(reply), api.OK)
				replied++
			}
		}
		all(t, k, replied == shards)
		if replied == shards {
			answers(t, k, api.Answer{Mark: 6, OK: true, Count: 1<<shards - 1})
		} else {
			noAnswer(t, k, api.ErrOrder)
		}
	}
}

// P17.6: a Get is OK, if its reply has just one entry, whichever that is, and whatever else the reply says.
func TestAnswerOfGet(t *testing.T) {
	for _, ok := range []bool{false, true} {
		for _, count := range []int{0, 7, -1} {
			for _, l := range [][]api.Held{nil, {held("a", set(1, "1"))}} {
				reply := func(e ...string) *call.Task {
					return answered(t, get("a"), api.Resp{OK: ok, Entries: entries(e...), Held: l, Count: count})
				}
				answers(t, reply("a", "1"), api.Answer{Mark: 9, OK: true, Entries: entries("a", "1")})
				answers(t, reply("a", ""), api.Answer{Mark: 9, OK: true, Entries: entries("a", "")})
				answers(t, reply("b", "2"), api.Answer{Mark: 9, OK: true, Entries: entries("b", "2")})
				answers(t, reply("", ""), api.Answer{Mark: 9, OK: true, Entries: entries("", "")})
				answers(t, reply(), api.Answer{Mark: 9})
				answers(t, reply("a", "1", "a", "1"), api.Answer{Mark: 9})
				answers(t, reply("a", "1", "b", "2", "c", "3"), api.Answer{Mark: 9})
			}
		}
	}
	answers(t, answered(t, get("a"), api.Resp{Entries: []api.Entry{}}), api.Answer{Mark: 9})
}

// P17.6, P17.8: a Scan has the entries of all replies, by rising keys as bytes; of one key in the replies' order.
func TestAnswerOfScan(t *testing.T) {
	for _, c := range []struct {
		replies [][]api.Entry
		want    []api.Entry
	}{
		{[][]api.Entry{nil}, nil},
		{[][]api.Entry{nil, {}, nil}, nil},
		{[][]api.Entry{entries("a", "1", "c", "3"), entries("b", "2", "d", "4")}, entries("a", "1", "b", "2", "c", "3", "d", "4")},
		{[][]api.Entry{entries("c", "3"), nil, entries("a", "1"), entries("b", "2")}, entries("a", "1", "b", "2", "c", "3")},
		{[][]api.Entry{entries("\xff", "5", "é", "4"), entries("Z", "1", "", "0", "\x00", "0"), entries("a", "2", "aa", "3")},
			entries("", "0", "\x00", "0", "Z", "1", "a", "2", "aa", "3", "é", "4", "\xff", "5")},
		{[][]api.Entry{entries("b", "9", "a", "8", "b", "7"), entries("a", "6", "b", "5", "a", "4")}, // of one key neither by value
			entries("a", "8", "a", "6", "a", "4", "b", "9", "b", "7", "b", "5")},
		{[][]api.Entry{entries("d", "1", "c", "2", "b", "3", "a", "4")}, entries("a", "4", "b", "3", "c", "2", "d", "1")},
		{[][]api.Entry{entries("k", "1"), entries("k", "1"), entries("k", "1")}, entries("k", "1", "k", "1", "k", "1")},
	} {
		var replies []api.Resp
		for i, l := range c.replies {
			replies = append(replies, api.Resp{OK: i%2 == 0, Entries: l, Count: i, Held: []api.Held{held("h")}})
		}
		answers(t, answered(t, scan("", ""), replies...), api.Answer{Mark: 9, OK: true, Entries: c.want})
	}
	// Beyond its stretch, too: replies are taken as they are.
	answers(t, answered(t, scan("b", "c"), api.Resp{Entries: entries("z", "1", "a", "2")}), api.Answer{Mark: 9, OK: true, Entries: entries("a", "2", "z", "1")})
}

// P17.6: many of few keys stay in the replies' order: a sort that does not keep it shows there.
func TestManyOfOneKey(t *testing.T) {
	var replies []api.Resp
	var want, others []api.Entry
	var heldWant, heldOthers []api.Held
	for i := range api.MaxShards {
		var r api.Resp
		for n := range 40 {
			number := i*100 + n
			a, b := api.Entry{Key: "a", Val: long(number % 97)}, api.Entry{Key: "b", Val: long(number % 89)}
			r.Entries = append(r.Entries, b, a)
			want, others = append(want, a), append(others, b)
			x, y := held("a", set(number, "")), held("b", gone(number))
			r.Held = append(r.Held, y, x)
			heldWant, heldOthers = append(heldWant, x), append(heldOthers, y)
		}
		replies = append(replies, r)
	}
	answers(t, answered(t, scan("", ""), replies...), api.Answer{Mark: 9, OK: true, Entries: append(want, others...)})
	answers(t, answered(t, save(), replies...), api.Answer{Mark: 9, OK: true}, append(heldWant, heldOthers...)...)
}

// P17.6: a Collect's Count is the sum of the replies', and wraps round.
func TestAnswerOfCollect(t *testing.T) {
	for _, c := range []struct {
		counts []int
		want   int
	}{
		{[]int{0}, 0}, {[]int{5}, 5}, {[]int{1, 2, 3, 4}, 10}, {[]int{0, 0}, 0}, {[]int{-1, 3}, 2}, {[]int{-5}, -5},
		{[]int{1 << 31, 1 << 31}, 1 << 32},
		{[]int{math.MaxInt, 1}, math.MinInt}, {[]int{math.MinInt, -1}, math.MaxInt},
		{[]int{math.MaxInt, math.MaxInt}, -2}, {[]int{math.MinInt, math.MinInt}, 0},
		{[]int{math.MaxInt, 1, math.MinInt}, 0},
	} {
		var replies []api.Resp
		for i, n := range c.counts {
			replies = append(replies, api.Resp{OK: i%2 == 0, Count: n, Entries: entries("a", "1"), Held: []api.Held{held("h")}})
		}
		answers(t, answered(t, collect(), replies...), api.Answer{Mark: 9, OK: true, Count: c.want})
	}
}

// P17.6, P17.8: a Save has what all replies hold, by rising keys; of one key in the replies' order, none put into one.
func TestAnswerOfSave(t *testing.T) {
	h := func(l ...api.Held) []api.Held { return l }
	for _, c := range []struct{ replies, want []api.Held }{
		{nil, nil},
		{h(held("b", set(2, "2")), held("a", set(1, "1"), gone(4))), h(held("a", set(1, "1"), gone(4)), held("b", set(2, "2")))},
		{h(held("a", set(2, "2")), held("a", set(1, "1")), held("a", set(2, "2"))), h(held("a", set(2, "2")), held("a", set(1, "1")), held("a", set(2, "2")))},
		{h(held("\xff"), held("é", set(-1, "x"), set(-1, "y")), held("", gone(0)), held("Z")), h(held("", gone(0)), held("Z"), held("é", set(-1, "x"), set(-1, "y")), held("\xff"))},
	} {
		for _, all := range [][]api.Resp{{{Held: c.replies}}, {{}, {Held: c.replies, OK: true, Count: 3}, {}}, apart(c.replies)} {
			if len(all) > 0 {
				all[0].Entries = entries("e", "1")
				answers(t, answered(t, save(), all...), api.Answer{Mark: 9, OK: true}, c.want...)
			}
		}
	}
}

// apart: a reply for each.
func apart(l []api.Held) []api.Resp {
	var all []api.Resp
	for _, h := range l {
		all = append(all, api.Resp{Held: []api.Held{h}})
	}
	return all
}

// P17.7: at which mark it began, from Begin on for ever.
func TestMark(t *testing.T) {
	for _, x := range oneOfEach() {
		for _, m := range []int{0, 1, 7, 65535, 65536} {
			k := made(t, -1, sized(2), x)
			is(t, k.Begin(m, m/2, nil), api.OK)
			mark(t, k, m)
			for k.Sent() == api.OK {
				mark(t, k, m)
				is(t, k.Got(api.Resp{To: -1}), api.OK)
				mark(t, k, m)
			}
			answers(t, k, api.Answer{Mark: m, OK: x.Kind != api.CallGet})
			mark(t, k, m)
		}
	}
}

// R3: a nil task and a zero struct are none, to every call, and stay none.
func TestTasksThatAreNotThere(t *testing.T) {
	for _, k := range []*call.Task{nil, {}, new(call.Task)} {
		for range 2 {
			is(t, k.Begin(0, 0, nil), api.ErrNil)
			is(t, k.Begin(-1, 5, []int{1, 1}), api.ErrNil)
			is(t, k.Begin(2, 1, []int{4}), api.ErrNil)
			is(t, k.Sent(), api.ErrNil)
			is(t, k.Got(api.Resp{}), api.ErrNil)
			is(t, k.Got(api.Resp{To: -1, OK: true, Entries: entries("a", "1")}), api.ErrNil)
			noNext(t, k)
			noAnswer(t, k, api.ErrNil)
			all(t, k, false)
			if m, ok := k.Mark(); m != 0 || ok {
				t.Errorf("Mark = %d, %v", m, ok)
			}
		}
	}
}

// R4: the list beyond is neither changed nor kept, nor its spare room; what Next tells may be changed.
func TestTheListBeyond(t *testing.T) {
	room := []int{4, 6, 77, 78}
	k := made(t, -1, sized(3), save())
	is(t, k.Begin(2, 2, room[:2]), api.OK)
	if !slices.Equal(room, []int{4, 6, 77, 78}) {
		t.Errorf("changed: %v", room)
	}
	room[0], room[1] = 5, 9
	want := api.Req{Kind: api.ReqDump, From: -1, Number: 2, Beyond: []int{4, 6}}
	for shard := range 3 {
		_, first, _ := k.Next()
		_, second, _ := k.Next()
		spoil(first.Beyond, -1)
		if !sameReq(second, want) {
			t.Errorf("what Next told is now %+v", second)
		}
		next(t, k, shard, want)
		is(t, k.Sent(), api.OK)
		spoil(second.Beyond, -2)
	}
	if !slices.Equal(room, []int{5, 9, 77, 78}) {
		t.Errorf("changed: %v", room)
	}
}

// spoil writes over a list, and its spare room.
func spoil[T any](l []T, with T) {
	l = l[:cap(l)]
	for i := range l {
		l[i] = with
	}
}

// R4: replies are neither changed nor kept, nor their spare room.
func TestRepliesStay(t *testing.T) {
	for _, x := range oneOfEach() {
		few := entries("b", "1", "room", "room")
		many := entries("c", "2", "a", "3", "room", "room")
		versions := []api.Version{set(1, "1"), gone(2), set(9, "room")}
		room := []api.Held{held("c", versions[:2]...), held("a", versions[:1]...), held("room", versions...)}
		replies := []api.Resp{{Entries: few[:1], Held: room[:1]}, {Entries: many[:2], Held: room[:2]}}
		if x.Kind == api.CallGet {
			replies = replies[:1]
		}
		k := answered(t, x, replies...)
		before, l, _ := k.Answer()
		if !slices.Equal(few, entries("b", "1", "room", "room")) || !slices.Equal(many, entries("c", "2", "a", "3", "room", "room")) {
			t.Errorf("changed: %v, %v", few, many)
		}
		if !slices.Equal(versions, []api.Version{set(1, "1"), gone(2), set(9, "room")}) || !sameHeld(room, []api.Held{held("c", versions[:2]...), held("a", versions[:1]...), held("room", versions...)}) {
			t.Errorf("changed: %v, %v", versions, room)
		}
		spoil(few, api.Entry{Key: "0"})
		spoil(many, api.Entry{Key: "0"})
		spoil(versions, gone(7))
		spoil(room, held("0"))
		answers(t, k, before, l...)
	}
	answers(t, answered(t, save(), api.Resp{Held: []api.Held{held("c"), held("a")}}), api.Answer{Mark: 9, OK: true}, held("a"), held("c"))
}

// R4: what is answered may be changed, spare room too: the task, and its other answers, stay as they were.
func TestWhatIsAnsweredIsNew(t *testing.T) {
	versions := func() []api.Version { return []api.Version{set(1, "1"), gone(2), set(3, "3")} }
	reply := func() api.Resp {
		return api.Resp{Entries: entries("c", "1", "a", "2", "b", "3"), Held: []api.Held{held("b", versions()...), held("a", versions()...), held("c"), held("a", versions()...)}}
	}
	wantEntries := entries("a", "2", "a", "2", "b", "3", "b", "3", "c", "1", "c", "1")
	var wantHeld []api.Held
	for _, key := range []string{"a", "a", "a", "a", "b", "b"} {
		wantHeld = append(wantHeld, held(key, versions()...))
	}
	wantHeld = append(wantHeld, held("c"), held("c"))

	s := answered(t, scan("", ""), reply(), reply())
	v := answered(t, save(), reply(), reply())
	g := answered(t, get("a"), api.Resp{Entries: entries("a", "1")})
	for range 3 {
		for _, k := range []*call.Task{s, v, g} {
			first, l, _ := k.Answer()
			second, m, _ := k.Answer()
			spoil(first.Entries, api.Entry{Key: "spoilt"})
			for _, h := range l[:cap(l)] {
				spoil(h.Versions, gone(-9))
			}
			spoil(l, held("spoilt"))
			answers(t, k, second, m...)
		}
	}
	answers(t, s, api.Answer{Mark: 9, OK: true, Entries: wantEntries})
	answers(t, v, api.Answer{Mark: 9, OK: true}, wantHeld...)
	answers(t, g, api.Answer{Mark: 9, OK: true, Entries: entries("a", "1")})
}

// R4: no two lists within one answer share anything, though replies had one and the same list twice.
func TestListsWithinAnAnswer(t *testing.T) {
	l := []api.Version{set(1, "1"), set(2, "2")}
	same := []api.Held{held("a", l...), held("b", l[:1]...), held("c", l[:0]...)}
	k := answered(t, save(), api.Resp{Held: same}, api.Resp{Held: same})
	_, got, _ := k.Answer()
	for i := range got {
		_, want, _ := k.Answer()
		spoil(got[i].Versions, gone(-9))
		for j := range got {
			if j > i && !slices.Equal(got[j].Versions, want[j].Versions) {
				t.Errorf("what is of %d is of %d", i, j)
			}
		}
	}
	if !slices.Equal(l, []api.Version{set(1, "1"), set(2, "2")}) {
		t.Errorf("changed: %v", l)
	}
}

// R5: two tasks share nothing, not even of one number and one call.
func TestTwoTasks(t *testing.T) {
	for _, x := range oneOfEach() {
		beyond := []int{9, 10}
		a, b := made(t, -1, sized(2), x), made(t, -1, sized(2), x)
		is(t, a.Begin(7, 7, beyond), api.OK)
		notBegun(t, b)
		for a.Sent() == api.OK {
			is(t, a.Got(api.Resp{To: -1, Count: 1, Entries: entries("a", "1"), Held: []api.Held{held("a")}}), api.OK)
			notBegun(t, b)
		}
		all(t, a, true)
		want, l, _ := a.Answer()
		is(t, b.Begin(5, 5, beyond), api.OK)
		mark(t, a, 7)
		mark(t, b, 5)
		for b.Sent() == api.OK {
			all(t, b, false)
			is(t, b.Got(api.Resp{To: -1}), api.OK)
		}
		answers(t, b, api.Answer{Mark: 5, OK: x.Kind != api.CallGet})
		answers(t, a, want, l...)
	}
}
