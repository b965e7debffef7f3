package count_test

import (
	"fmt"
	"math"
	"slices"
	"strings"
	"testing"

	"towpath/api"
	"towpath/count"
	"towpath/disk"
	"towpath/dump"
	"towpath/slots"
)

// put and drop: a write of a value, and one by which a key goes.
func put(key, val string) api.Write { return api.Write{Key: key, Val: val} }
func drop(key string) api.Write     { return api.Write{Key: key, Drop: true} }

// ws: writes of one transaction.
func ws(l ...api.Write) []api.Write { return l }

// numbered: a log of transactions with these writes.
func numbered(l ...[]api.Write) []api.Txn {
	var log []api.Txn
	for i, w := range l {
		log = append(log, api.Txn{Number: i + 1, Writes: w})
	}
	return log
}

// logT is the document's log.
func logT() []api.Txn {
	return numbered(ws(put("a", "1")), ws(put("b", "2")), ws(put("a", "3"), drop("b")))
}

// like: a configuration.
func like(lanes, shards, window, queue int) api.Config {
	return api.Config{Lanes: lanes, Shards: shards, Window: window, Queue: queue}
}

// get, scan, collect, save: calls.
func get(key string) api.Call       { return api.Call{Kind: api.CallGet, Key: key} }
func scan(key, end string) api.Call { return api.Call{Kind: api.CallScan, Key: key, End: end} }
func collect() api.Call             { return api.Call{Kind: api.CallCollect} }
func save() api.Call                { return api.Call{Kind: api.CallSave} }

// is: are these the number and the error that are wanted?
func is(t testing.TB, what string, n int, e api.Errno, want int, code api.Errno) {
	t.Helper()
	if n != want || e != code {
		t.Fatalf("%s = %d, %d, want %d, %d", what, n, e, want, code)
	}
}

// txn, log, call, saving: is this what is answered?
func txn(t testing.TB, x api.Txn, skipped bool, want int, code api.Errno) {
	t.Helper()
	n, e := count.Txn(x, skipped)
	is(t, fmt.Sprintf("Txn(%.300v, %v)", x, skipped), n, e, want, code)
}

func log(t testing.TB, l []api.Txn, mark int, beyond []int, want int, code api.Errno) {
	t.Helper()
	n, e := count.Log(l, mark, beyond)
	is(t, fmt.Sprintf("Log(%d, %d, %.300v)", len(l), mark, beyond), n, e, want, code)
}

func call(t testing.TB, c api.Config, x api.Call, want int, code api.Errno) {
	t.Helper()
	n, e := count.Call(c, x)
	is(t, fmt.Sprintf("Call(%v, %.300v)", c, x), n, e, want, code)
}

func saving(t testing.TB, c api.Config, s api.Saved, want int, code api.Errno) {
	t.Helper()
	n, e := count.Save(c, s)
	is(t, fmt.Sprintf("Save(%v, %.300v)", c, s), n, e, want, code)
}

// P22.1 to P22.3: the chapter's rows.
func TestExamples(t *testing.T) {
	l := logT()
	txn(t, l[0], false, 7, api.OK)
	txn(t, l[2], false, 9, api.OK)
	txn(t, l[2], true, 2, api.OK)
	txn(t, api.Txn{}, false, 0, api.ErrArg)
	txn(t, api.Txn{Number: 1, Writes: ws(put("a", "1"), put("b", "2"), put("a", "3"))}, false, 9, api.OK)
	log(t, l, 0, nil, 23, api.OK)
	log(t, l, 1, []int{3}, 9, api.OK)
	log(t, l, 3, nil, 0, api.OK)
	log(t, l, 4, nil, 0, api.ErrArg)
	two := like(1, 2, 4, 1)
	call(t, two, get("a"), 4, api.OK)
	call(t, two, scan("", ""), 6, api.OK)
	call(t, two, save(), 0, api.ErrArg)
	call(t, api.Config{}, get("a"), 0, api.ErrConfig)
	call(t, api.Config{}, save(), 0, api.ErrConfig)
}

// P22.1: the writes that count are one of each key, whatever they write.
func TestTxnByItsWrites(t *testing.T) {
	var all []api.Write
	for n := range api.MaxWrites {
		all = append(all, put(fmt.Sprint("k", n), ""))
		x := api.Txn{Number: n + 1, Writes: all}
		txn(t, x, false, 5+2*(n+1), api.OK)
		txn(t, x, true, 2, api.OK)
	}
	one := slices.Repeat(ws(put("a", "x")), api.MaxWrites)
	txn(t, api.Txn{Number: api.MaxLog, Writes: one}, false, 7, api.OK)
	for want, w := range [][]api.Write{
		nil,
		ws(put("a", ""), drop("a"), put("a", "x"), drop("a")),
		ws(drop("a"), put("b", "1"), put("b", "1"), drop("a")),
		ws(put("a", "x"), put("A", "x"), put("aa", "x"), put("a", "y")),
		ws(put("\x00", ""), put("\x00\x00", ""), put("\xff", ""), drop("\xfe"), drop("\xff")),
	} {
		txn(t, api.Txn{Number: 1, Writes: w}, false, 5+2*want, api.OK)
		txn(t, api.Txn{Number: 1, Writes: w}, true, 2, api.OK)
	}
	long := strings.Repeat("k", api.MaxKey-1)
	txn(t, api.Txn{Number: 1, Writes: ws(put(long+"k", strings.Repeat("v", api.MaxVal)), put(long+"l", ""), put(long, ""))}, false, 11, api.OK)
}

// spoilt: transactions of a number that may be, which may not be.
func spoilt(number int) []api.Txn {
	var l []api.Txn
	for _, w := range [][]api.Write{
		ws(put("", "x")),
		ws(put("a", "x"), drop("")),
		ws(put(strings.Repeat("k", api.MaxKey+1), "x")),
		ws(put("a", strings.Repeat("v", api.MaxVal+1))),
		ws(put("a", strings.Repeat("v", api.MaxVal+1)), put("a", "")),
		ws(api.Write{Key: "a", Val: "x", Drop: true}),
		slices.Repeat(ws(put("a", "")), api.MaxWrites+1),
	} {
		l = append(l, api.Txn{Number: number, Writes: w})
	}
	return l
}

// P22.1: transactions that may not be, skipped or not.
func TestTxnThatMayNotBe(t *testing.T) {
	l := spoilt(1)
	for _, n := range []int{0, -1, api.MaxLog + 1, math.MinInt, math.MaxInt} {
		l = append(l, api.Txn{Number: n}, api.Txn{Number: n, Writes: ws(put("a", "x"))})
	}
	for _, x := range l {
		txn(t, x, false, 0, api.ErrArg)
		txn(t, x, true, 0, api.ErrArg)
	}
	txn(t, api.Txn{Number: 1}, false, 5, api.OK)
	txn(t, api.Txn{Number: api.MaxLog}, false, 5, api.OK)
	txn(t, api.Txn{Number: api.MaxLog}, true, 2, api.OK)
}

// P22.2: each mark and what may be beyond it.
func TestLogs(t *testing.T) {
	l := logT()
	for _, x := range []struct {
		mark   int
		beyond []int
		want   int
	}{
		{0, nil, 23}, {1, nil, 16}, {2, nil, 9}, {3, nil, 0},
		{0, []int{2}, 18}, {0, []int{3}, 16}, {0, []int{2, 3}, 11}, {1, []int{3}, 9},
	} {
		log(t, l, x.mark, x.beyond, x.want, api.OK)
	}
	log(t, nil, 0, nil, 0, api.OK)
	l = numbered(nil, ws(put("a", "1"), put("a", "2")), nil, ws(drop("b")), nil)
	log(t, l, 0, nil, 5+7+5+7+5, api.OK)
	log(t, l, 0, []int{2, 4}, 5+2+5+2+5, api.OK)
	log(t, l, 0, []int{3, 5}, 5+7+2+7+2, api.OK)
	log(t, l, 1, []int{3, 4, 5}, 7+2+2+2, api.OK)
	log(t, l, 2, []int{4}, 5+2+5, api.OK)
	log(t, l, 3, []int{5}, 7+2, api.OK)
}

// P22.2: logs that may not be; each is looked at whole, whatever is behind the mark.
func TestLogsThatMayNotBe(t *testing.T) {
	for place := range 3 {
		for _, x := range spoilt(place + 1) {
			l := logT()
			l[place] = x
			log(t, l, 0, nil, 0, api.ErrArg)
			log(t, l, 3, nil, 0, api.ErrArg)
			log(t, l, place, nil, 0, api.ErrArg)
			log(t, l, 0, []int{2, 3}, 0, api.ErrArg)
		}
	}
	for _, numbers := range [][]int{{0}, {2}, {-1}, {1, 1}, {1, 3}, {2, 1}, {2, 3}, {1, 2, 4}, {1, 2, 2}, {math.MaxInt}, {math.MinInt}} {
		var l []api.Txn
		for _, n := range numbers {
			l = append(l, api.Txn{Number: n})
		}
		for mark := range len(l) + 1 {
			log(t, l, mark, nil, 0, api.ErrArg)
		}
	}
	l := make([]api.Txn, api.MaxLog+1)
	for i := range l {
		l[i].Number = i + 1
	}
	log(t, l, 0, nil, 0, api.ErrArg)
	log(t, l, api.MaxLog+1, nil, 0, api.ErrArg)
	log(t, l[:api.MaxLog], 0, nil, 5*api.MaxLog, api.OK)
	log(t, l[:api.MaxLog], 0, []int{api.MaxLog}, 5*api.MaxLog-3, api.OK)
	log(t, l[:api.MaxLog], 0, []int{api.MaxLog + 1}, 0, api.ErrArg)
}

// P22.2: marks and what cannot be beyond them.
func TestWhereALogCannotBegin(t *testing.T) {
	l := logT()
	for _, mark := range []int{-1, 4, math.MinInt, math.MaxInt, math.MaxInt - 1} {
		for _, beyond := range [][]int{nil, {}, {2}, {3}, {math.MinInt}, {math.MaxInt}} {
			log(t, l, mark, beyond, 0, api.ErrArg)
		}
	}
	for mark, all := range [][][]int{
		{{1}, {0}, {-1}, {4}, {1, 2}, {2, 4}, {3, 3}, {3, 2}, {2, 2}, {2, 3, 3}, {2, 3, 4}, {2, 3, 1}, {math.MaxInt}, {math.MinInt}, {2, math.MaxInt, 3}},
		{{1}, {2}, {2, 3}, {4}, {3, 4}, {3, 2}, {0, 3}},
		{{3}, {4}, {2}, {3, 4}},
		{{3}, {4}, {5}, {0}},
	} {
		for _, beyond := range all {
			log(t, l, mark, beyond, 0, api.ErrArg)
		}
	}
	log(t, nil, 1, nil, 0, api.ErrArg)
	log(t, nil, -1, nil, 0, api.ErrArg)
	log(t, nil, 0, []int{1}, 0, api.ErrArg)
	log(t, nil, 0, []int{2}, 0, api.ErrArg)
}

// P22.3: a Get's do not hang on the shards, a Scan's and a Collect's do; nothing hangs on the rest.
func TestCalls(t *testing.T) {
	for shards := 1; shards <= api.MaxShards; shards++ {
		for _, c := range []api.Config{like(1, shards, 1, 1), like(api.MaxLanes, shards, api.MaxWindow, api.MaxQueue), like(3, shards, 7, 2)} {
			for _, key := range []string{"a", "\x00", strings.Repeat("k", api.MaxKey)} {
				call(t, c, get(key), 4, api.OK)
				call(t, c, scan(key, ""), 2+2*shards, api.OK)
				call(t, c, scan("", key), 2+2*shards, api.OK)
				call(t, c, scan(key, key), 2+2*shards, api.OK)
			}
			call(t, c, scan("", ""), 2+2*shards, api.OK)
			call(t, c, scan("b", "a"), 2+2*shards, api.OK)
			call(t, c, collect(), 2+2*shards, api.OK)
			call(t, c, save(), 0, api.ErrArg)
		}
	}
}

// callsThatMayNotBe are none that a replica takes.
func callsThatMayNotBe() []api.Call {
	long := strings.Repeat("k", api.MaxKey+1)
	return []api.Call{
		{}, {Key: "a"}, {Kind: api.CallSave + 1}, {Kind: 255}, {Kind: 255, Key: "a"},
		get(""), get(long), {Kind: api.CallGet, Key: "a", End: "b"}, {Kind: api.CallGet, End: "b"},
		scan(long, ""), scan("", long), scan("a", long),
		{Kind: api.CallCollect, Key: "a"}, {Kind: api.CallCollect, End: "a"},
		save(), {Kind: api.CallSave, Key: "a"}, {Kind: api.CallSave, End: "a"},
	}
}

// wrongConfigs may not be.
func wrongConfigs() []api.Config {
	l := []api.Config{{}}
	for place := range 4 {
		for _, n := range []int{0, -1, math.MinInt, math.MaxInt, []int{api.MaxLanes, api.MaxShards, api.MaxWindow, api.MaxQueue}[place] + 1} {
			f := []int{1, 1, 1, 1}
			f[place] = n
			l = append(l, like(f[0], f[1], f[2], f[3]))
		}
	}
	return l
}

// P22.3: what Call refuses, the configuration first.
func TestCallRefuses(t *testing.T) {
	for _, x := range callsThatMayNotBe() {
		call(t, like(1, 2, 4, 1), x, 0, api.ErrArg)
		call(t, like(16, 16, 64, 16), x, 0, api.ErrArg)
		for _, c := range wrongConfigs() {
			call(t, c, x, 0, api.ErrConfig)
		}
	}
	for _, c := range wrongConfigs() {
		for _, x := range []api.Call{get("a"), scan("", ""), collect()} {
			call(t, c, x, 0, api.ErrConfig)
		}
	}
}

// of: a checkpoint of one key whose bytes, head and all, are so many (some 40 to 1000).
func of(t testing.TB, size int) api.Saved {
	t.Helper()
	for n := range api.MaxVal + 1 {
		s := api.Saved{Mark: 1, Held: []api.Held{{Key: "a", Versions: []api.Version{{Number: 1, Val: strings.Repeat("v", n)}}}}}
		b, e := dump.Encode(s)
		if e != api.OK {
			t.Fatal(e)
		}
		if len(b)+20 == size {
			return s
		}
	}
	t.Fatalf("no checkpoint of %d bytes", size)
	return api.Saved{}
}

// P22.3: a raw write that clears, and one for each block, the last of which may be less; and the call's own.
func TestSave(t *testing.T) {
	for shards := 1; shards <= api.MaxShards; shards++ {
		for _, c := range []api.Config{like(1, shards, 1, 1), like(api.MaxLanes, shards, api.MaxWindow, api.MaxQueue)} {
			own := 2 + 2*shards
			saving(t, c, api.Saved{}, own+2, api.OK)
			saving(t, c, api.Saved{Mark: api.MaxLog}, own+2, api.OK)
			saving(t, c, api.Saved{Mark: 3, Beyond: []int{5}}, own+2, api.OK)
			for _, size := range []int{63, 64, 65, 127, 128, 129, 192, 193, 1000} {
				saving(t, c, of(t, size), own+1+(size+63)/64, api.OK)
			}
		}
	}
}

// P22.3: what Save refuses: the configuration, then what may not be said.
func TestSaveRefuses(t *testing.T) {
	held := func(key string, l ...api.Version) api.Saved {
		return api.Saved{Mark: 3, Beyond: []int{5}, Held: []api.Held{{Key: key, Versions: l}}}
	}
	wrong := []api.Saved{
		{Mark: -1}, {Mark: math.MinInt}, {Mark: math.MaxInt}, {Mark: api.MaxLog + 1},
		{Mark: 3, Beyond: []int{4}}, {Mark: 3, Beyond: []int{5, 5}}, {Mark: 3, Beyond: []int{api.MaxLog + 1}}, {Mark: 0, Beyond: []int{3, 2}},
		held("a"), held("", api.Version{Number: 1}), held("a", api.Version{Number: 1}, api.Version{Number: 2}),
		held("a", api.Version{Number: 2, Drop: true}), held("a", api.Version{Number: 4}), held("a", api.Version{Number: 7}), held("a", api.Version{}),
		held("a", api.Version{Number: 1, Val: strings.Repeat("v", api.MaxVal+1)}),
		{Mark: 1, Held: []api.Held{{Key: "b", Versions: []api.Version{{Number: 1}}}, {Key: "a", Versions: []api.Version{{Number: 1}}}}},
	}
	for _, s := range wrong {
		saving(t, like(1, 2, 4, 1), s, 0, api.ErrArg)
		for _, c := range wrongConfigs() {
			saving(t, c, s, 0, api.ErrConfig)
		}
	}
	for _, c := range wrongConfigs() {
		saving(t, c, api.Saved{}, 0, api.ErrConfig)
	}
}

// filling: a checkpoint whose bytes, head and all, are just as many as a slot may have, and so many more.
func filling(t testing.TB, more int) api.Saved {
	t.Helper()
	const keys = 16300
	s := api.Saved{Mark: 1}
	left := api.MaxDisk + more - 24 - 14*keys // what is not the values' own
	for n := range keys {
		val := strings.Repeat("v", (left+keys-n-1)/(keys-n))
		left -= len(val)
		s.Held = append(s.Held, api.Held{Key: fmt.Sprintf("%08d", n), Versions: []api.Version{{Number: 1, Val: val}}})
	}
	if b, e := dump.Encode(s); e != api.OK || len(b)+20 != api.MaxDisk+more {
		t.Fatalf("%d bytes, %v", len(b)+20, e)
	}
	return s
}

// P22.3: what a disk of MaxDisk bytes can hold is counted, one byte more is not.
func TestTheGreatestCheckpoint(t *testing.T) {
	c := like(1, 3, 4, 1)
	saving(t, c, filling(t, 0), 2+6+1+api.MaxDisk/api.Block, api.OK)
	s := filling(t, 1)
	saving(t, c, s, 0, api.ErrSpace)
	saving(t, api.Config{}, s, 0, api.ErrConfig)
	s.Beyond = []int{2}
	saving(t, c, s, 0, api.ErrArg)
}

// P22.3: as many as a saver over such a disk has Left, more keys than a log has transactions among them.
func TestSaveAsASaver(t *testing.T) {
	many := api.Saved{Mark: 1}
	for n := range api.MaxLog + 10 {
		many.Held = append(many.Held, api.Held{Key: fmt.Sprintf("%08d", n), Versions: []api.Version{{Number: 1}}})
	}
	for _, s := range []api.Saved{{}, {Mark: 9, Beyond: []int{11, 300}}, of(t, 100), of(t, 777), many} {
		d, _ := disk.New(api.MaxDisk)
		x, e := slots.New(d, s)
		if e != api.OK {
			t.Fatal(e)
		}
		saving(t, like(2, 5, 4, 1), s, 12+x.Left(), api.OK)
	}
}

// R4: what is handed in is not changed, its spare room neither.
func TestWhatIsHandedInStays(t *testing.T) {
	writes := append(make([]api.Write, 0, 8), put("a", "1"), drop("b"), put("a", "2"))
	l := append(make([]api.Txn, 0, 8), api.Txn{Number: 1, Writes: writes}, api.Txn{Number: 2}, api.Txn{Number: 3, Writes: writes[:1]})
	beyond := append(make([]int, 0, 8), 2, 3)
	versions := append(make([]api.Version, 0, 8), api.Version{Number: 1, Val: "x"}, api.Version{Number: 2, Drop: true})
	held := append(make([]api.Held, 0, 8), api.Held{Key: "a", Versions: versions})
	told := func() string { // all of it, spare room too
		return fmt.Sprint(writes[:8], l[:8], beyond[:8], versions[:8], held[:8])
	}
	before := told()
	for range 2 {
		txn(t, l[0], false, 9, api.OK)
		txn(t, l[0], true, 2, api.OK)
		log(t, l, 0, beyond, 9+2+2, api.OK)
		log(t, l, 1, beyond, 0, api.ErrArg)
		log(t, l, 1, beyond[1:], 5+2, api.OK)
		saving(t, like(1, 2, 4, 1), api.Saved{Beyond: beyond, Held: held}, 0, api.ErrArg)
		saving(t, like(1, 2, 4, 1), api.Saved{Beyond: beyond, Held: []api.Held{{Key: "a", Versions: versions[1:]}}}, 8, api.OK)
	}
	if told() != before {
		t.Errorf("%v, before %v", told(), before)
	}
}

// R4: empty and nil are the same.
func TestEmptyAndNil(t *testing.T) {
	txn(t, api.Txn{Number: 1, Writes: []api.Write{}}, false, 5, api.OK)
	log(t, []api.Txn{}, 0, []int{}, 0, api.OK)
	log(t, logT(), 0, []int{}, 23, api.OK)
	saving(t, like(1, 1, 1, 1), api.Saved{Beyond: []int{}, Held: []api.Held{}}, 6, api.OK)
}
