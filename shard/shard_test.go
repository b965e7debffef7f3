package shard_test

import (
	"fmt"
	"math"
	"slices"
	"strings"
	"testing"

	"towpath/api"
	"towpath/shard"
)

// long: a text of n bytes.
func long(n int) string { return strings.Repeat("v", n) }

// set and drop: a version with a value, and one by which the key goes.
func set(number int, val string) api.Version { return api.Version{Number: number, Val: val} }
func drop(number int) api.Version            { return api.Version{Number: number, Drop: true} }

// write and gone: a write of a value, and one by which the key goes.
func write(key, val string) api.Write { return api.Write{Key: key, Val: val} }
func gone(key string) api.Write       { return api.Write{Key: key, Drop: true} }

// held: a key with these versions.
func held(key string, l ...api.Version) api.Held { return api.Held{Key: key, Versions: l} }

// list: these keys.
func list(l ...api.Held) []api.Held { return l }

// entries: of keys and values, by turns.
func entries(texts ...string) []api.Entry {
	var l []api.Entry
	for i := 0; i < len(texts); i += 2 {
		l = append(l, api.Entry{Key: texts[i], Val: texts[i+1]})
	}
	return l
}

// full: a version of each number that there is.
func full() []api.Version {
	l := make([]api.Version, api.MaxLog)
	for i := range l {
		l[i] = set(i+1, "v")
	}
	return l
}

// showVersions and show tell what is held as the chapter does; of what is long the beginning, so that a message stays short.
func showVersions(l []api.Version) string {
	var b strings.Builder
	for i, v := range l {
		if i == 10 {
			fmt.Fprintf(&b, " .. %d", len(l))
			break
		}
		fmt.Fprintf(&b, " %d %.40q", v.Number, v.Val)
		if v.Drop {
			b.WriteString(" -")
		}
	}
	return b.String()
}

func show(l []api.Held) string {
	var b strings.Builder
	for i, h := range l {
		if i == 10 {
			fmt.Fprintf(&b, " .. %d", len(l))
			break
		}
		fmt.Fprintf(&b, " %.40q:%s;", h.Key, showVersions(h.Versions))
	}
	return "(" + strings.TrimPrefix(b.String(), " ") + ")"
}

// same: these keys with these versions? None and nil are the same.
func same(a, b []api.Held) bool {
	return slices.EqualFunc(a, b, func(x, y api.Held) bool { return x.Key == y.Key && slices.Equal(x.Versions, y.Versions) })
}

// installs: does Install answer this?
func installs(t *testing.T, s *shard.Shard, number int, w api.Write, ok bool) {
	t.Helper()
	if is, e := s.Install(number, w); is != ok || e != api.OK {
		t.Errorf("Install(%d, %.80q, %.40q, %v) = %v, %v, want %v", number, w.Key, w.Val, w.Drop, is, e, ok)
	}
}

// noInstall: does Install answer ErrArg, and change nothing?
func noInstall(t *testing.T, s *shard.Shard, number int, w api.Write) {
	t.Helper()
	was := s.All()
	if is, e := s.Install(number, w); is || e != api.ErrArg {
		t.Errorf("Install(%d, %.80q, %.40q, %v) = %v, %v, want ErrArg", number, w.Key, w.Val, w.Drop, is, e)
	}
	has(t, s, was...)
}

// gets: does Get answer this value?
func gets(t *testing.T, s *shard.Shard, key string, mark int, val string) {
	t.Helper()
	if v, ok := s.Get(key, mark); v != val || !ok {
		t.Errorf("Get(%.80q, %d) = %.40q, %v, want %.40q", key, mark, v, ok, val)
	}
}

// getsNone: does Get answer that there is none?
func getsNone(t *testing.T, s *shard.Shard, key string, mark int) {
	t.Helper()
	if v, ok := s.Get(key, mark); v != "" || ok {
		t.Errorf("Get(%.80q, %d) = %.40q, %v, want none", key, mark, v, ok)
	}
}

// scans: does Scan answer these entries (keys and values, by turns)?
func scans(t *testing.T, s *shard.Shard, key, end string, mark int, want ...string) {
	t.Helper()
	if l := s.Scan(key, end, mark); !slices.Equal(l, entries(want...)) {
		t.Errorf("Scan(%.80q, %.80q, %d) = %.400q, want %.400q", key, end, mark, l, want)
	}
}

// collects: does Collect answer so many, and leave these?
func collects(t *testing.T, s *shard.Shard, least, gone int, want ...api.Held) {
	t.Helper()
	if n := s.Collect(least); n != gone {
		t.Errorf("Collect(%d) = %d, want %d", least, n, gone)
	}
	has(t, s, want...)
}

// dumps: does Dump answer this?
func dumps(t *testing.T, s *shard.Shard, mark int, beyond []int, want ...api.Held) {
	t.Helper()
	if l := s.Dump(mark, beyond); !same(l, want) {
		t.Errorf("Dump(%d, %v) = %s, want %s", mark, beyond[:min(len(beyond), 20)], show(l), show(want))
	}
}

// has: does All answer this, and Size how many versions these are?
func has(t *testing.T, s *shard.Shard, want ...api.Held) {
	t.Helper()
	if l := s.All(); !same(l, want) {
		t.Errorf("All = %s, want %s", show(l), show(want))
	}
	n := 0
	for _, h := range want {
		n += len(h.Versions)
	}
	if s.Size() != n {
		t.Errorf("Size = %d, want %d", s.Size(), n)
	}
}

// loads: a shard that has these.
func loads(t *testing.T, l ...api.Held) *shard.Shard {
	t.Helper()
	s, e := shard.Load(l)
	if s == nil || e != api.OK {
		t.Fatalf("Load(%s) = %v", show(l), e)
	}
	return s
}

// noLoad: does Load answer ErrArg, and no shard?
func noLoad(t *testing.T, l ...api.Held) {
	t.Helper()
	if s, e := shard.Load(l); s != nil || e != api.ErrArg {
		t.Errorf("Load(%s): a shard: %v, %v, want ErrArg", show(l), s != nil, e)
	}
}

// docShard: the chapter's.
func docShard(t *testing.T) *shard.Shard {
	t.Helper()
	s := shard.New()
	installs(t, s, 1, write("a", "x"), true)
	installs(t, s, 2, write("b", "y"), true)
	installs(t, s, 3, gone("a"), true)
	return s
}

// docHeld: what the chapter's shard has.
func docHeld() []api.Held {
	return list(held("a", set(1, "x"), drop(3)), held("b", set(2, "y")))
}

// P9.2: the chapter's row.
func TestExamplesOfInstall(t *testing.T) {
	s := docShard(t)
	installs(t, s, 3, write("a", "z"), false)
	noInstall(t, s, 0, write("a", "z"))
	noInstall(t, s, 4, write("", "z"))
	has(t, s, docHeld()...)
}

// P9.3: the chapter's rows.
func TestExamplesOfGetAndScan(t *testing.T) {
	s := docShard(t)
	gets(t, s, "a", 2, "x")
	getsNone(t, s, "a", 3)
	getsNone(t, s, "b", 1)
	getsNone(t, s, "c", 9)
	scans(t, s, "", "", 2, "a", "x", "b", "y")
	scans(t, s, "", "", 3, "b", "y")
	scans(t, s, "b", "", 2, "b", "y")
	scans(t, s, "", "b", 2, "a", "x")
}

// P9.5 and P9.6: the chapter's rows.
func TestExamplesOfAllAndDump(t *testing.T) {
	s := docShard(t)
	has(t, s, docHeld()...)
	if s.Size() != 3 {
		t.Errorf("Size = %d", s.Size())
	}
	dumps(t, s, 2, nil, held("a", set(1, "x")), held("b", set(2, "y")))
	dumps(t, s, 1, []int{3}, held("a", set(1, "x"), drop(3)))
	dumps(t, s, 3, nil, held("b", set(2, "y")))
}

// P9.4: the chapter's row.
func TestExamplesOfCollect(t *testing.T) {
	s := docShard(t)
	collects(t, s, 3, 1, held("a", drop(3)), held("b", set(2, "y")))
	collects(t, s, 3, 0, held("a", drop(3)), held("b", set(2, "y")))
}

// P9.1: the chapter's row.
func TestExamplesOfLoad(t *testing.T) {
	noLoad(t, held("b", set(1, "x")), held("a", set(1, "x")))
	noLoad(t, held("a"))
	noLoad(t, held("a", set(2, "x"), set(1, "y")))
}

// R3: the chapter's row, and the other calls; a zero struct is as one that is not there.
func TestShardsThatAreNotThere(t *testing.T) {
	for _, s := range []*shard.Shard{nil, {}, new(shard.Shard)} {
		for _, w := range []api.Write{write("a", "x"), gone("a"), write("", "x"), write("a", long(api.MaxVal+1))} {
			for _, number := range []int{1, 0, api.MaxLog + 1} {
				if ok, e := s.Install(number, w); ok || e != api.ErrNil {
					t.Errorf("Install = %v, %v", ok, e)
				}
			}
		}
		getsNone(t, s, "a", 1)
		scans(t, s, "", "", 1)
		dumps(t, s, 1, []int{2})
		collects(t, s, 1, 0)
		has(t, s)
	}
}

// P9.1: New has no keys, and each New is one of its own.
func TestNew(t *testing.T) {
	s, other := shard.New(), shard.New()
	if s == nil || other == nil {
		t.Fatal("no shard")
	}
	has(t, s)
	getsNone(t, s, "a", 1)
	getsNone(t, s, "", 0)
	scans(t, s, "", "", math.MaxInt)
	dumps(t, s, math.MaxInt, []int{1, 2})
	collects(t, s, math.MaxInt, 0)
	installs(t, s, 1, write("a", "x"), true)
	has(t, other)
	has(t, s, held("a", set(1, "x")))
}

// P9.1: what may be: nothing, the bounds of keys, values and numbers, any bytes; keys are in order as their bytes are.
func TestLoadOfWhatMayBe(t *testing.T) {
	has(t, loads(t))
	has(t, loads(t, list()...))
	for _, l := range [][]api.Held{
		docHeld(),
		list(held("a", set(1, ""))),
		list(held("\x00", drop(1))),
		list(held(long(api.MaxKey), set(api.MaxLog, long(api.MaxVal)))),
		list(held("a", drop(1), drop(api.MaxLog))),
		list(held("\x00", set(1, "\x00")), held("\x00\x00", set(1, "\xff")), held("A", set(1, "")), held("B", set(1, "")), held("Ba", set(1, "")), held("a", set(1, "")), held("\x7f", set(1, "")), held("\x80", set(1, "")), held("é", set(1, "")), held("\xff", set(1, "")), held("\xff\x00", set(1, ""))),
		list(held("a", full()...), held("b", full()...)),
	} {
		s := loads(t, l...)
		has(t, s, l...)
		for _, h := range l {
			last := h.Versions[len(h.Versions)-1]
			installs(t, s, last.Number, gone(h.Key), false)
			if last.Drop {
				getsNone(t, s, h.Key, math.MaxInt)
			} else {
				gets(t, s, h.Key, math.MaxInt, last.Val)
			}
		}
		has(t, s, l...)
	}
}

// P9.1: what may not be, wherever it stands.
func TestLoadOfWhatMayNotBe(t *testing.T) {
	for _, h := range []api.Held{
		{}, held("", set(1, "x")), held("k"), {Key: "k", Versions: []api.Version{}}, held(""),
		held("k"+long(api.MaxKey), set(1, "x")), held("k"+long(70000), set(1, "x")),
		held("k", set(0, "x")), held("k", set(-1, "x")), held("k", set(math.MinInt, "")), held("k", set(api.MaxLog+1, "x")), held("k", drop(1<<32+1)),
		held("k", set(2, "x"), set(2, "x")), held("k", set(1, "x"), set(3, "y"), set(2, "z")), held("k", drop(2), set(1, "x")),
		held("k", set(1, long(api.MaxVal+1))), held("k", set(1, "x"), api.Version{Number: 2, Val: "x", Drop: true}),
		held("k", append(full(), set(api.MaxLog+1, "v"))...),
	} {
		noLoad(t, h)
		noLoad(t, held("a", set(1, "x")), h)
		noLoad(t, h, held("z", set(1, "x")))
		noLoad(t, held("a", set(1, "x")), h, held("z", set(1, "x")))
	}
	for _, keys := range []string{"ba", "aa", "abb", "aab", "acb", "bac", "aba", "\xff\x80", "\x80\x7f", "aA"} {
		var l []api.Held
		for i := range len(keys) {
			l = append(l, held(keys[i:i+1], set(1, "x")))
		}
		noLoad(t, l...)
	}
	noLoad(t, held("ab", set(1, "x")), held("a", set(1, "x")))
	noLoad(t, held("a\x00", set(1, "x")), held("a", set(1, "x")))
}

// P9.2: the bounds of numbers, keys and values; any bytes.
func TestInstall(t *testing.T) {
	s := shard.New()
	key := "w" + long(api.MaxKey-1)
	installs(t, s, 1, write("k", ""), true)
	installs(t, s, api.MaxLog, write("k", long(api.MaxVal)), true)
	installs(t, s, 2, gone("k"), true)
	installs(t, s, 7, gone(key), true)
	installs(t, s, 7, write("\x00", "\xff\x00"), true)
	installs(t, s, 7, write("K", "k"), true)
	want := list(held("\x00", set(7, "\xff\x00")), held("K", set(7, "k")), held("k", set(1, ""), drop(2), set(api.MaxLog, long(api.MaxVal))), held(key, drop(7)))
	has(t, s, want...)
	for _, h := range want {
		for _, v := range h.Versions {
			for _, w := range []api.Write{write(h.Key, "other"), write(h.Key, ""), gone(h.Key), {Key: h.Key, Val: v.Val, Drop: v.Drop}} {
				installs(t, s, v.Number, w, false)
				has(t, s, want...)
			}
		}
	}
}

// P9.2: ErrArg, and nothing changes, the key of that write there or not.
func TestInstallOfWhatMayNotBe(t *testing.T) {
	for _, s := range []*shard.Shard{shard.New(), docShard(t)} {
		for _, number := range []int{math.MinInt, -1 << 32, -1, 0, api.MaxLog + 1, 1<<32 + 1, math.MaxInt} {
			for _, w := range []api.Write{write("a", "z"), gone("a"), write("q", ""), write("", "")} {
				noInstall(t, s, number, w)
			}
		}
		for _, w := range []api.Write{
			{}, {Drop: true}, write("", "z"), write(long(api.MaxKey+1), "z"), gone(long(70000)),
			write("a", long(api.MaxVal+1)), write("q", long(70000)),
			{Key: "a", Val: "x", Drop: true}, {Key: "q", Val: "\x00", Drop: true},
		} {
			for _, number := range []int{1, 2, 3, 4, api.MaxLog} {
				noInstall(t, s, number, w)
			}
		}
	}
}

// P9.2: behind all, ahead of all, between; of each number that there is; each key by itself.
func TestInstallInAnyPlace(t *testing.T) {
	s := docShard(t)
	installs(t, s, 9, write("b", "9"), true)
	installs(t, s, 1, gone("b"), true)
	installs(t, s, 5, write("b", ""), true)
	installs(t, s, 2, write("a", "2"), true)
	has(t, s, held("a", set(1, "x"), set(2, "2"), drop(3)), held("b", drop(1), set(2, "y"), set(5, ""), set(9, "9")))
	s = shard.New()
	for _, v := range full() {
		installs(t, s, v.Number, write("k", v.Val), true)
	}
	has(t, s, held("k", full()...))
	for _, number := range []int{1, 2, 30000, api.MaxLog - 1, api.MaxLog} {
		installs(t, s, number, gone("k"), false)
		installs(t, s, number, gone("l"), true)
	}
	has(t, s, held("k", full()...), held("l", drop(1), drop(2), drop(30000), drop(api.MaxLog-1), drop(api.MaxLog)))
}

// P9.3: any text, any mark.
func TestGet(t *testing.T) {
	s := loads(t, held("a", set(2, "x"), drop(4), set(6, ""), set(api.MaxLog, "y")), held("ab", set(1, "z")))
	for _, mark := range []int{math.MinInt, -1 << 32, -1, 0, 1, 4, 5} {
		getsNone(t, s, "a", mark)
	}
	for mark, val := range map[int]string{2: "x", 3: "x", 6: "", 7: "", api.MaxLog - 1: "", api.MaxLog: "y", api.MaxLog + 1: "y", 1<<32 + 1: "y", math.MaxInt: "y"} {
		gets(t, s, "a", mark, val)
	}
	gets(t, s, "ab", 1, "z")
	for _, key := range []string{"", "b", "A", "a\x00", "aa", "abc", "\xff", long(api.MaxKey), long(api.MaxKey + 1), long(70000)} {
		for _, mark := range []int{math.MinInt, 0, 6, math.MaxInt} {
			getsNone(t, s, key, mark)
		}
	}
}

// P9.3: a stretch begins with its key and ends ahead of its end; an empty end is none; keys are in order as their bytes are.
func TestScan(t *testing.T) {
	var l []api.Held
	for _, key := range []string{"\x00", "A", "a", "a\x00", "ab", "b", "\x80", "\xff", "\xff\xff"} {
		l = append(l, held(key, set(1, "v"+key)))
	}
	s := loads(t, l...)
	for _, c := range []struct {
		key, end string
		from, to int // of the keys above
	}{
		{"", "", 0, 9}, {"\x00", "", 0, 9}, {"\x00\x00", "", 1, 9}, {"a", "", 2, 9}, {"a\x00", "", 3, 9}, {"a\x01", "", 4, 9}, {"\xff\xff", "", 8, 9}, {"\xff\xff\x00", "", 9, 9},
		{"", "\x00", 0, 0}, {"", "\x01", 0, 1}, {"", "a", 0, 2}, {"", "a\x00", 0, 3}, {"", "\xff", 0, 7}, {"", "\xff\xff", 0, 8}, {"", "\xff\xff\xff", 0, 9},
		{"a", "a", 2, 2}, {"a", "a\x00", 2, 3}, {"a", "ab", 2, 4}, {"a", "b", 2, 5}, {"B", "a", 2, 2}, {"b", "a", 5, 5}, {"\xff", "\x00", 7, 7},
		{"c", "\x80", 6, 6}, {"c", "\x81", 6, 7}, {"b", "é", 5, 7},
		{long(api.MaxKey + 1), "", 6, 9}, {"", long(70000), 0, 6}, {long(70000), long(70000), 0, 0}, {"a", "a" + long(api.MaxKey), 2, 5},
	} {
		var want []string
		for _, h := range l[c.from:c.to] {
			want = append(want, h.Key, "v"+h.Key)
		}
		scans(t, s, c.key, c.end, 1, want...)
		scans(t, s, c.key, c.end, math.MaxInt, want...)
		scans(t, s, c.key, c.end, 0)
		scans(t, s, c.key, c.end, math.MinInt)
	}
}

// P9.3: a Scan leaves out what is not there at the mark, and has what has an empty value.
func TestScanAtMarks(t *testing.T) {
	s := loads(t, held("a", set(2, "x"), drop(4)), held("b", set(1, ""), set(5, "y")), held("c", drop(1)), held("d", drop(1), set(3, "z")))
	for mark, want := range [][]string{nil, {"b", ""}, {"a", "x", "b", ""}, {"a", "x", "b", "", "d", "z"}, {"b", "", "d", "z"}, {"b", "y", "d", "z"}, {"b", "y", "d", "z"}} {
		scans(t, s, "", "", mark, want...)
	}
	scans(t, s, "", "", math.MinInt)
	scans(t, s, "", "", math.MaxInt, "b", "y", "d", "z")
}

// P9.4: of each key, and all together; any int may be the least mark; the newest one stays, a Drop too.
func TestCollect(t *testing.T) {
	l := list(held("a", set(2, "x"), drop(4)), held("b", set(1, ""), set(3, "y"), set(5, "z")), held("c", drop(1)), held("d", set(9, "q")))
	behind := map[int][]api.Held{
		2: l,
		3: list(l[0], held("b", l[1].Versions[1:]...), l[2], l[3]),
		4: list(held("a", drop(4)), held("b", l[1].Versions[1:]...), l[2], l[3]),
		5: list(held("a", drop(4)), held("b", set(5, "z")), l[2], l[3]),
	}
	for _, c := range []struct{ least, gone, as int }{
		{math.MinInt, 0, 2}, {-1 << 32, 0, 2}, {-1, 0, 2}, {0, 0, 2}, {1, 0, 2}, {2, 0, 2}, {3, 1, 3}, {4, 2, 4}, {5, 3, 5}, {9, 3, 5}, {api.MaxLog + 1, 3, 5}, {1<<32 + 1, 3, 5}, {math.MaxInt, 3, 5},
	} {
		s := loads(t, l...)
		collects(t, s, c.least, c.gone, behind[c.as]...)
		collects(t, s, c.least, 0, behind[c.as]...)
		collects(t, s, math.MaxInt, 3-c.gone, behind[5]...)
	}
	s := loads(t, held("a", full()...), held("b", full()...))
	collects(t, s, math.MaxInt, 2*(api.MaxLog-1), held("a", set(api.MaxLog, "v")), held("b", set(api.MaxLog, "v")))
}

// P9.2 and P9.4: what went may be installed again, and what stays takes more.
func TestInstallBehindCollect(t *testing.T) {
	s := loads(t, held("a", set(1, "x"), set(2, "y"), set(3, "z")))
	collects(t, s, 3, 2, held("a", set(3, "z")))
	installs(t, s, 4, gone("a"), true)
	installs(t, s, 3, gone("a"), false)
	installs(t, s, 1, write("a", "w"), true)
	has(t, s, held("a", set(1, "w"), set(3, "z"), drop(4)))
}

// P9.5: keys of which nothing is dumped are left out; beyond is any ints, in any order; nothing changes.
func TestDump(t *testing.T) {
	l := list(held("a", set(2, "x"), drop(4)), held("b", set(1, ""), set(3, "y"), set(5, "z")), held("c", drop(1)), held("d", set(9, "q"), drop(api.MaxLog)))
	s := loads(t, l...)
	a, b, c, d := l[0].Versions, l[1].Versions, l[2].Versions, l[3].Versions
	for _, mark := range []int{math.MinInt, -1, 0} {
		dumps(t, s, mark, nil)
		dumps(t, s, mark, []int{1}, held("b", b[0]), held("c", c[0]))
		dumps(t, s, mark, []int{9, 5, 5, -1, math.MaxInt, math.MinInt, 4, 6, 1 << 32}, held("a", a[1]), held("b", b[2]), held("d", d[0]))
	}
	dumps(t, s, 1, []int{2, 1}, held("a", a[0]), held("b", b[0]))
	dumps(t, s, 2, []int{}, held("a", a[0]), held("b", b[0]))
	dumps(t, s, 3, []int{api.MaxLog, 4}, held("a", a...), held("b", b[1]), held("d", d[1]))
	dumps(t, s, 4, nil, held("b", b[1]))
	dumps(t, s, 9, []int{1, 2, 3, 4, 5, 9}, held("b", b[2]), held("d", d[0]))
	for _, mark := range []int{api.MaxLog, api.MaxLog + 1, 1<<32 + 1, math.MaxInt} {
		dumps(t, s, mark, []int{1, 2, 3, 4, 5, 9, api.MaxLog}, held("b", b[2]))
	}
	has(t, s, l...)
}
