package owner_test

import (
	"math"
	"reflect"
	"slices"
	"strconv"
	"strings"
	"testing"

	"towpath/api"
	"towpath/owner"
)

// made: an owner of a queue so long, with these keys; there must be one.
func made(t *testing.T, queue int, l ...api.Held) *owner.Owner {
	t.Helper()
	o, e := owner.New(0, queue, l)
	if o == nil || e != api.OK {
		t.Fatalf("New(0, %d, %v) = %v, %v", queue, l, o, e)
	}
	return o
}

// notMade: does New answer ErrArg, and no owner?
func notMade(t *testing.T, shard, queue int, l ...api.Held) {
	t.Helper()
	if o, e := owner.New(shard, queue, l); o != nil || e != api.ErrArg {
		t.Errorf("New(%d, %d, %.200v) = %v, %v, want %v", shard, queue, l, o, e, api.ErrArg)
	}
}

// asks: does Ask take the request?
func asks(t *testing.T, o *owner.Owner, r api.Req) {
	t.Helper()
	if ok, e := o.Ask(r); !ok || e != api.OK {
		t.Fatalf("Ask(%.200v) = %v, %v", r, ok, e)
	}
}

// noRoom: does Ask answer that there is none?
func noRoom(t *testing.T, o *owner.Owner, r api.Req) {
	t.Helper()
	if ok, e := o.Ask(r); ok || e != api.OK {
		t.Errorf("Ask(%.200v) = %v, %v, want no room", r, ok, e)
	}
}

// refuses: does Ask answer this error?
func refuses(t *testing.T, o *owner.Owner, r api.Req, want api.Errno) {
	t.Helper()
	if ok, e := o.Ask(r); ok || e != want {
		t.Errorf("Ask(%.200v) = %v, %v, want %v", r, ok, e, want)
	}
}

// sameReply: are they the same? An empty list and none are.
func sameReply(a, b api.Resp) bool {
	return a.To == b.To && a.OK == b.OK && a.Count == b.Count && slices.Equal(a.Entries, b.Entries) && sameHeld(a.Held, b.Held)
}

// sameHeld: likewise.
func sameHeld(a, b []api.Held) bool {
	return slices.EqualFunc(a, b, func(x, y api.Held) bool { return x.Key == y.Key && slices.Equal(x.Versions, y.Versions) })
}

// serves: is this the next reply?
func serves(t *testing.T, o *owner.Owner, want api.Resp) {
	t.Helper()
	if got, e := o.Serve(); e != api.OK || !sameReply(got, want) {
		t.Errorf("Serve = %+v, %v, want %+v", got, e, want)
	}
}

// notServed: does Serve answer this error, and nothing else?
func notServed(t *testing.T, o *owner.Owner, want api.Errno) {
	t.Helper()
	if got, e := o.Serve(); e != want || !reflect.DeepEqual(got, api.Resp{}) {
		t.Errorf("Serve = %+v, %v, want %v", got, e, want)
	}
}

// gives: is this the reply to the request, of an owner for whom none waits?
func gives(t *testing.T, o *owner.Owner, r api.Req, want api.Resp) {
	t.Helper()
	asks(t, o, r)
	serves(t, o, want)
}

// waiting: do so many wait, and is there room for so many more?
func waiting(t *testing.T, o *owner.Owner, n, room int) {
	t.Helper()
	if o.Len() != n || o.Room() != room {
		t.Errorf("Len %d, Room %d, want %d, %d", o.Len(), o.Room(), n, room)
	}
}

// has: is this all that the shard has?
func has(t *testing.T, o *owner.Owner, want ...api.Held) {
	t.Helper()
	if got := o.All(); !sameHeld(got, want) {
		t.Errorf("All = %+v, want %+v", got, want)
	}
}

// put: a write of a value.
func put(key, val string) api.Write { return api.Write{Key: key, Val: val} }

// drop: a write by which the key goes.
func drop(key string) api.Write { return api.Write{Key: key, Drop: true} }

// install: from the lane 1.
func install(number int, w api.Write) api.Req {
	return api.Req{Kind: api.ReqInstall, From: 1, Number: number, Write: w}
}

// get, scan, collect, dump: from the first call.
func get(key string, mark int) api.Req {
	return api.Req{Kind: api.ReqGet, From: -1, Number: mark, Key: key}
}

func scan(key, end string, mark int) api.Req {
	return api.Req{Kind: api.ReqScan, From: -1, Number: mark, Key: key, End: end}
}

func collect(least int) api.Req {
	return api.Req{Kind: api.ReqCollect, From: -1, Number: least}
}

func dump(mark int, beyond ...int) api.Req {
	return api.Req{Kind: api.ReqDump, From: -1, Number: mark, Beyond: beyond}
}

// held: a key with versions.
func held(key string, l ...api.Version) api.Held { return api.Held{Key: key, Versions: l} }

// set: a version with a value.
func set(number int, val string) api.Version { return api.Version{Number: number, Val: val} }

// gone: a version by which the key went.
func gone(number int) api.Version { return api.Version{Number: number, Drop: true} }

// entries: of keys and values, in turn.
func entries(l ...string) []api.Entry {
	var out []api.Entry
	for i := 0; i+1 < len(l); i += 2 {
		out = append(out, api.Entry{Key: l[i], Val: l[i+1]})
	}
	return out
}

// some: what an owner has in many of the tests.
func some() []api.Held {
	return []api.Held{held("a", set(1, "1"), set(3, "3")), held("b", set(2, "2"), gone(4)), held("c", set(5, ""))}
}

// one of each kind, with all the fields that its row names.
func oneOfEach() []api.Req {
	return []api.Req{install(2, put("a", "2")), get("a", 3), scan("a", "c", 3), collect(3), dump(3, 4, 5)}
}

// Each row of the chapter's examples.
func TestExamples(t *testing.T) {
	notMade(t, 16, 1)
	notMade(t, 0, 0)
	notMade(t, -1, 1)

	o := made(t, 2)
	asks(t, o, install(1, put("a", "1")))
	asks(t, o, install(2, put("a", "2")))
	noRoom(t, o, install(3, put("a", "3")))
	waiting(t, o, 2, 0)

	serves(t, o, api.Resp{To: 1, OK: true})
	serves(t, o, api.Resp{To: 1, OK: true})
	notServed(t, o, api.ErrIdle)

	gives(t, o, get("a", 1), api.Resp{To: -1, OK: true, Entries: entries("a", "1")})
	gives(t, o, get("a", 0), api.Resp{To: -1})

	gives(t, o, install(2, put("a", "9")), api.Resp{To: 1})
	has(t, o, held("a", set(1, "1"), set(2, "2")))

	gives(t, o, scan("", "", 2), api.Resp{To: -1, OK: true, Entries: entries("a", "2")})
	gives(t, o, dump(1, 3), api.Resp{To: -1, OK: true, Held: []api.Held{held("a", set(1, "1"))}})

	gives(t, o, collect(2), api.Resp{To: -1, OK: true, Count: 1})
	has(t, o, held("a", set(2, "2")))

	refuses(t, o, api.Req{}, api.ErrArg)
	refuses(t, o, api.Req{Kind: api.ReqGet, From: -1, Number: 1, Key: "a", End: "b"}, api.ErrArg)
}

// P15.1: every shard's number and every length of a queue, and those beside them.
func TestNewAtItsBounds(t *testing.T) {
	far := []int{math.MinInt, math.MinInt + 1, -1 << 32, -1<<32 + 1, -1 << 31, -65535, -256, -255, -16, -2, -1, 17, 18, 255, 256, 257, 65536, 65537, 1<<31 - 1, 1 << 31, 1 << 32, 1<<32 + 1, math.MaxInt - 1, math.MaxInt}
	for shard := range api.MaxShards {
		for queue := 1; queue <= api.MaxQueue; queue++ {
			o, e := owner.New(shard, queue, some())
			if o == nil || e != api.OK {
				t.Fatalf("New(%d, %d) = %v, %v", shard, queue, o, e)
			}
			waiting(t, o, 0, queue)
			has(t, o, some()...)
			notServed(t, o, api.ErrIdle)
		}
		for _, queue := range append(far, 0) {
			notMade(t, shard, queue)
			notMade(t, shard, queue, some()...)
		}
	}
	for queue := 0; queue <= api.MaxQueue+1; queue++ {
		for _, shard := range append(far, 16) {
			notMade(t, shard, queue)
		}
	}
}

// P15.1: the keys that shard.Load refuses, and those that it takes.
func TestNewWithKeys(t *testing.T) {
	long := strings.Repeat("k", api.MaxKey)
	for _, l := range [][]api.Held{
		{held("b", set(1, "")), held("a", set(1, ""))},
		{held("a", set(1, "")), held("a", set(2, ""))},
		{held("", set(1, ""))},
		{held(long+"k", set(1, ""))},
		{held("a")},
		{held("a", set(1, "")), held("b")},
		{held("a", set(0, ""))},
		{held("a", set(api.MaxLog+1, ""))},
		{held("a", set(2, ""), set(1, ""))},
		{held("a", set(1, ""), set(1, ""))},
		{held("a", set(1, strings.Repeat("v", api.MaxVal+1)))},
		{held("a", api.Version{Number: 1, Val: "x", Drop: true})},
	} {
		notMade(t, 0, 1, l...)
		notMade(t, 16, 17, l...)
	}
	all := []api.Held{held("\x00", gone(1)), held(long, set(1, strings.Repeat("v", api.MaxVal)), gone(api.MaxLog)), held("\xff", set(7, ""))}
	has(t, made(t, 1, all...), all...)
	has(t, made(t, 1))
	has(t, made(t, 1, []api.Held{}...))
}

// P15.2: what each row names may be at its bounds, and is served then.
func TestRequestsAtTheirBounds(t *testing.T) {
	long := strings.Repeat("k", api.MaxKey)
	last := set(api.MaxLog, strings.Repeat("v", api.MaxVal))
	o := made(t, 1, held("a", set(1, "1"), last))
	for _, c := range []struct {
		r    api.Req
		want api.Resp
	}{
		{get("a", 0), api.Resp{}},
		{get("a", api.MaxLog), api.Resp{OK: true, Entries: entries("a", last.Val)}},
		{get(long, 1), api.Resp{}},
		{get("\x00", 1), api.Resp{}},
		{scan("", "", 0), api.Resp{OK: true}},
		{scan("", "", api.MaxLog), api.Resp{OK: true, Entries: entries("a", last.Val)}},
		{scan("", long, 1), api.Resp{OK: true, Entries: entries("a", "1")}},
		{scan(long, "", 1), api.Resp{OK: true}},
		{scan(long, "a", 1), api.Resp{OK: true}},
		{scan("a", "a", 1), api.Resp{OK: true}},
		{scan("a", "b", 1), api.Resp{OK: true, Entries: entries("a", "1")}},
		{dump(0), api.Resp{OK: true}},
		{dump(0, 1), api.Resp{OK: true, Held: []api.Held{held("a", set(1, "1"))}}},
		{dump(0, 1, 2, api.MaxLog), api.Resp{OK: true, Held: []api.Held{held("a", set(1, "1"), last)}}},
		{dump(api.MaxLog), api.Resp{OK: true, Held: []api.Held{held("a", last)}}},
		{dump(api.MaxLog-1, api.MaxLog), api.Resp{OK: true, Held: []api.Held{held("a", set(1, "1"), last)}}},
		{collect(0), api.Resp{OK: true}},
		{collect(api.MaxLog - 1), api.Resp{OK: true}},
	} {
		for _, from := range []int{math.MinInt, -32, -1, 1, 16, 17, math.MaxInt} { // only an install must come from above 0
			c.r.From, c.want.To = from, from
			gives(t, o, c.r, c.want)
		}
	}
	gives(t, o, collect(api.MaxLog), api.Resp{To: -1, OK: true, Count: 1})
	has(t, o, held("a", last))

	o = made(t, 1)
	for i, w := range []api.Write{put(long, strings.Repeat("v", api.MaxVal)), put("\x00", ""), drop("\xff"), drop(long)} {
		for j, number := range []int{1, 2, api.MaxLog - 1, api.MaxLog} {
			r := install(number, w)
			r.From = []int{1, 16, 17, math.MaxInt}[(i+j)%4]
			gives(t, o, r, api.Resp{To: r.From, OK: i < 3}) // the last key has had these numbers
		}
	}
}

// P15.2: all numbers that there can be stand beyond; one more is one too many.
func TestDumpOfAllNumbers(t *testing.T) {
	all := make([]int, api.MaxLog)
	for i := range all {
		all[i] = i + 1
	}
	o := made(t, 1, some()...)
	gives(t, o, dump(0, all...), api.Resp{To: -1, OK: true, Held: some()})
	refuses(t, o, dump(0, append(all, api.MaxLog+1)...), api.ErrArg)
	refuses(t, o, dump(1, all...), api.ErrArg)
}

// P15.2: what may not be of each kind is refused, and nothing changes, neither with room nor without.
func TestRequestsThatMayNotBe(t *testing.T) {
	long := strings.Repeat("k", api.MaxKey+1)
	wrong := []api.Req{
		install(1, put("", "x")), install(1, drop("")), install(1, api.Write{}), install(1, put(long, "x")),
		install(1, drop(long)), install(1, put("a", strings.Repeat("v", api.MaxVal+1))),
		install(1, api.Write{Key: "a", Val: "x", Drop: true}), install(0, put("a", "x")),
		get("", 1), get(long, 1),
		scan(long, "", 1), scan("", long, 1), scan("a", long, 1), scan(long, "z", 1),
		dump(0, 0), dump(3, 3), dump(3, 2), dump(3, 4, 4), dump(3, 5, 4), dump(3, 4, 6, 5), dump(3, -1), dump(3, 4, -1),
		dump(3, api.MaxLog+1), dump(3, 4, api.MaxLog+1), dump(3, math.MaxInt), dump(3, math.MinInt), dump(0, 1<<32+1),
	}
	for _, r := range oneOfEach() {
		for _, n := range []int{math.MinInt, -1 << 32, -1<<32 + 1, -65535, -1, 65537, 65538, 1 << 31, 1 << 32, 1<<32 + 1, math.MaxInt} {
			other := r
			other.Number = n
			wrong = append(wrong, other)
		}
		r.From = 0
		wrong = append(wrong, r)
	}
	for _, from := range []int{math.MinInt, -65536, -16, -1} {
		r := install(1, put("a", "x"))
		r.From = from
		wrong = append(wrong, r)
	}
	refusedAlways(t, wrong)
}

// refusedAlways: are these refused, whether there is room or not, and does nothing change?
func refusedAlways(t *testing.T, wrong []api.Req) {
	t.Helper()
	o := made(t, 1, some()...)
	full := made(t, 1, some()...)
	asks(t, full, get("b", 2))
	for _, r := range wrong {
		refuses(t, o, r, api.ErrArg)
		refuses(t, full, r, api.ErrArg) // ahead of a false for want of room
	}
	waiting(t, o, 0, 1)
	has(t, o, some()...)
	waiting(t, full, 1, 0)
	serves(t, full, api.Resp{To: -1, OK: true, Entries: entries("b", "2")})
	has(t, full, some()...)
}

// P15.2: a kind that is none, with whatever fields.
func TestKindsThatAreNone(t *testing.T) {
	var wrong []api.Req
	for _, r := range append(oneOfEach(), api.Req{}, api.Req{From: 1}, api.Req{From: -1}, api.Req{From: -1, Number: 1}) {
		for kind := range 256 {
			if r.Kind = api.ReqKind(kind); kind == 0 || kind > int(api.ReqDump) {
				wrong = append(wrong, r)
			}
		}
	}
	refusedAlways(t, wrong)
}

// P15.2: a field that the row of a kind does not name must be empty, each by itself.
func TestFieldsTooMany(t *testing.T) {
	var wrong []api.Req
	add := func(r api.Req, change func(r *api.Req)) {
		change(&r)
		wrong = append(wrong, r)
	}
	for _, r := range oneOfEach() {
		if r.Kind != api.ReqInstall {
			for _, w := range []api.Write{put("a", ""), put("", "x"), drop(""), put("a", "x"), drop("a")} {
				add(r, func(r *api.Req) { r.Write = w })
			}
		}
		if r.Kind != api.ReqGet && r.Kind != api.ReqScan {
			add(r, func(r *api.Req) { r.Key = "a" })
		}
		if r.Kind != api.ReqScan {
			add(r, func(r *api.Req) { r.End = "b" })
		}
		if r.Kind != api.ReqDump {
			add(r, func(r *api.Req) { r.Beyond = []int{r.Number + 1} })
			add(r, func(r *api.Req) { r.Beyond = []int{0} })
		}
	}
	if len(wrong) != 4*5+3+4+4*2 {
		t.Fatalf("%d requests", len(wrong))
	}
	refusedAlways(t, wrong)
}

// R4: an empty list beyond is as none, in every kind.
func TestEmptyBeyond(t *testing.T) {
	for i, want := range []api.Resp{
		{To: 1, OK: true},
		{To: -1, OK: true, Entries: entries("a", "3")},
		{To: -1, OK: true, Entries: entries("a", "3", "b", "2")},
		{To: -1, OK: true, Count: 1},
		{To: -1, OK: true, Held: []api.Held{held("a", set(3, "3")), held("b", set(2, "2"))}},
	} {
		r := oneOfEach()[i]
		o := made(t, 1, held("a", set(1, "1"), set(3, "3")), held("b", set(2, "2"), gone(4)))
		if r.Kind == api.ReqInstall {
			r.Number = 5
		}
		r.Beyond = []int{}
		gives(t, o, r, want)
	}
}

// P15.2, P15.4, P15.5: queues of every length, filled and served, and again; in order.
func TestQueuesOfEveryLength(t *testing.T) {
	for queue := 1; queue <= api.MaxQueue; queue++ {
		o := made(t, queue)
		next, served := 1, 1
		for round := range 5 {
			for i := o.Len(); i < queue; i++ {
				waiting(t, o, i, queue-i)
				r := install(next, put("k", strconv.Itoa(next)))
				r.From = next
				asks(t, o, r)
				next++
			}
			for range 3 {
				noRoom(t, o, install(9999, put("z", "z")))
				waiting(t, o, queue, 0)
			}
			for range max(1, queue-round) {
				serves(t, o, api.Resp{To: served, OK: true})
				served++
				waiting(t, o, next-served, queue-(next-served))
			}
		}
		for served < next {
			serves(t, o, api.Resp{To: served, OK: true})
			served++
		}
		notServed(t, o, api.ErrIdle)
		notServed(t, o, api.ErrIdle)
		waiting(t, o, 0, queue)
		if l := o.All(); len(l) != 1 || len(l[0].Versions) != next-1 {
			t.Errorf("a queue of %d: All = %v", queue, l)
		}
	}
}

// P15.5: nothing is done for a request until it is served, and each sees just what came ahead of it.
func TestInTheOrderAsked(t *testing.T) {
	o := made(t, 16)
	for _, r := range []api.Req{
		get("a", 9), install(1, put("a", "1")), get("a", 9), install(2, put("a", "2")), install(1, put("b", "x")), scan("", "", 9),
		dump(1, 2), collect(2), dump(1, 2), install(3, drop("a")), get("a", 9), get("a", 2), scan("", "", 9), install(1, put("a", "1")),
	} {
		asks(t, o, r)
	}
	has(t, o)
	back := api.Resp{To: -1, OK: true}
	done := api.Resp{To: 1, OK: true}
	with := func(l ...string) api.Resp { return api.Resp{To: -1, OK: true, Entries: entries(l...)} }
	for _, want := range []api.Resp{
		{To: -1}, done, with("a", "1"), done, done, with("a", "2", "b", "x"),
		{To: -1, OK: true, Held: []api.Held{held("a", set(1, "1"), set(2, "2")), held("b", set(1, "x"))}},
		{To: -1, OK: true, Count: 1},
		{To: -1, OK: true, Held: []api.Held{held("a", set(2, "2")), held("b", set(1, "x"))}},
		done, {To: -1}, with("a", "2"), with("b", "x"), done,
	} {
		serves(t, o, want)
	}
	gives(t, o, collect(0), back)
	has(t, o, held("a", set(1, "1"), set(2, "2"), gone(3)), held("b", set(1, "x")))
}

// P15.3: whether an install is OK hangs on its number and its key, not on the value, nor on who asked.
func TestInstalls(t *testing.T) {
	o := made(t, 1, held("a", set(3, "3")), held("b", gone(4)))
	from := func(lane int, r api.Req) api.Req {
		r.From = lane
		return r
	}
	for _, c := range []struct {
		r  api.Req
		ok bool
	}{
		{from(1, install(3, put("a", "3"))), false},
		{from(2, install(3, put("a", "9"))), false},
		{from(2, install(3, drop("a"))), false},
		{from(3, install(4, put("b", "9"))), false},
		{from(3, install(4, drop("b"))), false},
		{from(4, install(4, put("a", ""))), true},
		{from(4, install(4, drop("a"))), false},
		{from(5, install(2, drop("a"))), true},
		{from(5, install(3, put("b", "x"))), true},
		{from(6, install(3, drop("ab"))), true},
	} {
		gives(t, o, c.r, api.Resp{To: c.r.From, OK: c.ok})
	}
	has(t, o, held("a", gone(2), set(3, "3"), set(4, "")), held("ab", gone(3)), held("b", set(3, "x"), gone(4)))
}

// P15.3: what a reader is told of values that are empty, of keys that went, and of such as never were.
func TestReads(t *testing.T) {
	o := made(t, 1, some()...)
	for _, c := range []struct {
		key  string
		mark int
		want []api.Entry
	}{
		{"a", 0, nil}, {"a", 1, entries("a", "1")}, {"a", 2, entries("a", "1")}, {"a", 3, entries("a", "3")}, {"a", 9, entries("a", "3")},
		{"b", 1, nil}, {"b", 3, entries("b", "2")}, {"b", 4, nil}, {"b", 9, nil},
		{"c", 4, nil}, {"c", 5, entries("c", "")}, {"A", 9, nil}, {"aa", 9, nil},
	} {
		gives(t, o, get(c.key, c.mark), api.Resp{To: -1, OK: c.want != nil, Entries: c.want})
	}
	for _, c := range []struct {
		key, end string
		mark     int
		want     []api.Entry
	}{
		{"", "", 0, nil}, {"", "", 2, entries("a", "1", "b", "2")}, {"", "", 5, entries("a", "3", "c", "")},
		{"", "b", 2, entries("a", "1")}, {"b", "", 2, entries("b", "2")}, {"b", "c", 5, nil}, {"a", "c", 3, entries("a", "3", "b", "2")},
		{"aa", "", 5, entries("c", "")}, {"c", "a", 5, nil}, {"d", "", 5, nil}, {"", "A", 5, nil},
	} {
		gives(t, o, scan(c.key, c.end, c.mark), api.Resp{To: -1, OK: true, Entries: c.want})
	}
	has(t, o, some()...)
}

// P15.5: reads and dumps change nothing.
func TestReadsChangeNothing(t *testing.T) {
	o := made(t, 2, some()...)
	for mark := range 8 {
		for _, r := range []api.Req{get("a", mark), get("b", mark), get("z", mark), scan("", "", mark), scan("b", "a", mark), dump(mark), dump(mark, mark+1, mark+3)} {
			asks(t, o, r)
			asks(t, o, r)
			first, e := o.Serve()
			again, f := o.Serve()
			if e != api.OK || f != api.OK || !sameReply(first, again) {
				t.Errorf("%+v: %+v, %v, then %+v, %v", r, first, e, again, f)
			}
			has(t, o, some()...)
		}
	}
}

// P15.5: an install that is served twice is OK once, wherever the other one stands.
func TestInstalledTwice(t *testing.T) {
	o := made(t, 4)
	r := install(7, put("a", "x"))
	for range 4 {
		asks(t, o, r)
	}
	serves(t, o, api.Resp{To: 1, OK: true})
	for range 3 {
		serves(t, o, api.Resp{To: 1})
	}
	gives(t, o, r, api.Resp{To: 1})
	has(t, o, held("a", set(7, "x")))
}

// R3: a nil owner and a zero struct are none, to every call, and stay none.
func TestOwnersThatAreNotThere(t *testing.T) {
	for _, o := range []*owner.Owner{nil, {}, new(owner.Owner)} {
		for range 2 {
			for _, r := range append(oneOfEach(), api.Req{}) {
				refuses(t, o, r, api.ErrNil)
			}
			notServed(t, o, api.ErrNil)
			waiting(t, o, 0, 0)
			has(t, o)
		}
	}
}

// R4: what is handed in is neither changed nor kept, nor its spare room.
func TestWhatIsHandedInStays(t *testing.T) {
	versions := []api.Version{set(1, "1"), set(3, "3"), set(8, "room")}
	room := []api.Held{held("a", versions[:2]...), held("room", set(9, "room"))}
	o, other := made(t, 3, room[:1]...), made(t, 3, room[:1]...)
	numbers := []int{2, 3, 77, 78}
	asks(t, o, dump(1, numbers[:2]...))
	asks(t, o, install(2, put("a", "2")))
	asks(t, o, dump(1, numbers[:2]...))
	numbers[0], numbers[1] = 5, 6
	serves(t, o, api.Resp{To: -1, OK: true, Held: []api.Held{held("a", set(1, "1"), set(3, "3"))}})
	serves(t, o, api.Resp{To: 1, OK: true})
	serves(t, o, api.Resp{To: -1, OK: true, Held: []api.Held{held("a", set(1, "1"), set(2, "2"), set(3, "3"))}})
	gives(t, o, install(5, put("a", "5")), api.Resp{To: 1, OK: true})
	gives(t, o, collect(9), api.Resp{To: -1, OK: true, Count: 3})
	if !slices.Equal(numbers, []int{5, 6, 77, 78}) || !slices.Equal(versions, []api.Version{set(1, "1"), set(3, "3"), set(8, "room")}) {
		t.Errorf("changed: %v, %v", numbers, versions)
	}
	if !sameHeld(room, []api.Held{held("a", versions[:2]...), held("room", set(9, "room"))}) {
		t.Errorf("changed: %v", room)
	}
	versions[0], versions[1], room[0].Key = set(6, "z"), set(7, "z"), "z"
	has(t, o, held("a", set(5, "5")))
	has(t, other, held("a", set(1, "1"), set(3, "3")))
}

// spoil writes over all lists of a reply, and their spare room.
func spoil(r api.Resp) {
	for i := range r.Entries[:cap(r.Entries)] {
		r.Entries[:cap(r.Entries)][i] = api.Entry{Key: "spoilt", Val: "spoilt"}
	}
	l := r.Held[:cap(r.Held)]
	for i := range l {
		v := l[i].Versions[:cap(l[i].Versions)]
		for j := range v {
			v[j] = gone(-9)
		}
		l[i] = held("spoilt")
	}
}

// R4: what is answered may be changed: the owner, and its other answers, stay as they were.
func TestWhatIsAnsweredIsNew(t *testing.T) {
	o := made(t, 2, some()...)
	for _, r := range []api.Req{get("a", 3), scan("", "", 3), dump(2, 3, 4, 5), dump(9), dump(0, 1, 2, 3, 4, 5)} {
		asks(t, o, r)
		asks(t, o, r)
		first, _ := o.Serve()
		second, _ := o.Serve()
		spoil(first)
		gives(t, o, r, second)
		has(t, o, some()...)
	}
	one, two := o.All(), o.All()
	spoil(api.Resp{Held: one})
	if !sameHeld(two, some()) {
		t.Errorf("All = %v", two)
	}
	has(t, o, some()...)

	gives(t, o, install(9, put("a", "9")), api.Resp{To: 1, OK: true})
	gives(t, o, collect(9), api.Resp{To: -1, OK: true, Count: 3})
	if !sameHeld(two, some()) {
		t.Errorf("what All answered is now %v", two)
	}
}

// R5: two owners share nothing, not even of one shard, the same keys and the same requests.
func TestTwoOwners(t *testing.T) {
	a, b := made(t, 2, some()...), made(t, 2, some()...)
	r := dump(0, 1, 7)
	asks(t, a, install(7, put("a", "7")))
	asks(t, a, r)
	waiting(t, b, 0, 2)
	asks(t, b, r)
	notThere := []api.Held{held("a", set(1, "1"))}
	serves(t, b, api.Resp{To: -1, OK: true, Held: notThere})
	notServed(t, b, api.ErrIdle)
	serves(t, a, api.Resp{To: 1, OK: true})
	has(t, b, some()...)
	serves(t, a, api.Resp{To: -1, OK: true, Held: []api.Held{held("a", set(1, "1"), set(7, "7"))}})
	gives(t, b, collect(9), api.Resp{To: -1, OK: true, Count: 2})
	has(t, a, held("a", set(1, "1"), set(3, "3"), set(7, "7")), some()[1], some()[2])
}
