package chain_test

import (
	"fmt"
	"math"
	"slices"
	"strings"
	"testing"

	"towpath/api"
	"towpath/chain"
)

// long: a text of n bytes.
func long(n int) string { return strings.Repeat("v", n) }

// set and drop: a version with a value, and one by which the key goes.
func set(number int, val string) api.Version { return api.Version{Number: number, Val: val} }
func drop(number int) api.Version            { return api.Version{Number: number, Drop: true} }

// list: these versions.
func list(l ...api.Version) []api.Version { return l }

// docList: the chapter's L.
func docList() []api.Version { return list(set(2, "x"), drop(4), set(6, "y")) }

// full: a version of each number that there is.
func full() []api.Version {
	l := make([]api.Version, api.MaxLog)
	for i := range l {
		l[i] = set(i+1, "v")
	}
	return l
}

// show tells versions as the chapter does; of long lists and values the beginning, so that a message stays short.
func show(l ...api.Version) string {
	var b strings.Builder
	for i, v := range l {
		if i == 10 {
			fmt.Fprintf(&b, " .. %d", len(l))
			break
		}
		fmt.Fprintf(&b, " %d %.40q", v.Number, v.Val)
		if v.Drop {
			b.WriteString(" -")
		}
	}
	return "(" + strings.TrimPrefix(b.String(), " ") + ")"
}

// same: these versions? None and nil are the same.
func same(a, b []api.Version) bool { return slices.Equal(a, b) }

// puts: does Put answer this list?
func puts(t *testing.T, l []api.Version, v api.Version, ok bool, want ...api.Version) {
	t.Helper()
	if got, is, e := chain.Put(l, v); !same(got, want) || is != ok || e != api.OK {
		t.Errorf("Put(%s, %s) = %s, %v, %v, want %s, %v", show(l...), show(v), show(got...), is, e, show(want...), ok)
	}
}

// noPut: does Put answer ErrArg, and nothing beside it?
func noPut(t *testing.T, l []api.Version, v api.Version) {
	t.Helper()
	if got, ok, e := chain.Put(l, v); got != nil || ok || e != api.ErrArg {
		t.Errorf("Put(%s, %s) = %s, %v, %v", show(l...), show(v), show(got...), ok, e)
	}
}

// at: does At answer this version?
func at(t *testing.T, l []api.Version, mark int, want api.Version) {
	t.Helper()
	if v, ok, e := chain.At(l, mark); v != want || !ok || e != api.OK {
		t.Errorf("At(%s, %d) = %s, %v, %v, want %s", show(l...), mark, show(v), ok, e, show(want))
	}
}

// noneAt: does At answer that there is none?
func noneAt(t *testing.T, l []api.Version, mark int) {
	t.Helper()
	if v, ok, e := chain.At(l, mark); v != (api.Version{}) || ok || e != api.OK {
		t.Errorf("At(%s, %d) = %s, %v, %v, want none", show(l...), mark, show(v), ok, e)
	}
}

// collects: does Collect answer this list, and that so many went?
func collects(t *testing.T, l []api.Version, least, gone int, want ...api.Version) {
	t.Helper()
	if got, n, e := chain.Collect(l, least); !same(got, want) || n != gone || e != api.OK {
		t.Errorf("Collect(%s, %d) = %s, %d, %v, want %s, %d", show(l...), least, show(got...), n, e, show(want...), gone)
	}
}

// dumps: does Dump answer this list?
func dumps(t *testing.T, l []api.Version, mark int, beyond []int, want ...api.Version) {
	t.Helper()
	if got, e := chain.Dump(l, mark, beyond); !same(got, want) || e != api.OK {
		t.Errorf("Dump(%s, %d, %v) = %s, %v, want %s", show(l...), mark, beyond[:min(len(beyond), 20)], show(got...), e, show(want...))
	}
}

// refused: do all calls answer ErrArg, and nothing beside it?
func refused(t *testing.T, l []api.Version) {
	t.Helper()
	if e := chain.Check(l); e != api.ErrArg {
		t.Errorf("Check(%s) = %v", show(l...), e)
	}
	noPut(t, l, set(7, "z"))
	noPut(t, l, set(2, "x"))
	noPut(t, l, set(0, "x"))
	for _, n := range []int{math.MinInt, -1, 0, 1, 3, 4, api.MaxLog + 1, math.MaxInt} {
		if v, ok, e := chain.At(l, n); v != (api.Version{}) || ok || e != api.ErrArg {
			t.Errorf("At(%s, %d) = %s, %v, %v", show(l...), n, show(v), ok, e)
		}
		if got, gone, e := chain.Collect(l, n); got != nil || gone != 0 || e != api.ErrArg {
			t.Errorf("Collect(%s, %d) = %s, %d, %v", show(l...), n, show(got...), gone, e)
		}
		for _, beyond := range [][]int{nil, {2, 4, 6}, {n}} {
			if got, e := chain.Dump(l, n, beyond); got != nil || e != api.ErrArg {
				t.Errorf("Dump(%s, %d, %v) = %s, %v", show(l...), n, beyond, show(got...), e)
			}
		}
	}
}

// accepted: does Check answer OK, and do the other calls refuse nothing?
func accepted(t *testing.T, l []api.Version) {
	t.Helper()
	_, _, put := chain.Put(l, set(7, "z"))
	_, _, at := chain.At(l, 3)
	_, _, collect := chain.Collect(l, 3)
	_, dump := chain.Dump(l, 3, []int{4})
	for i, e := range []api.Errno{chain.Check(l), put, at, collect, dump} {
		if e != api.OK {
			t.Errorf("%s, call %d: %v", show(l...), i, e)
		}
	}
}

// P8.1: the chapter's row.
func TestExamplesOfCheck(t *testing.T) {
	accepted(t, docList())
	refused(t, list(set(4, "x"), set(2, "y")))
	refused(t, list(set(2, "x"), set(2, "y")))
	refused(t, list(set(0, "x")))
	refused(t, list(set(65537, "x")))
	refused(t, list(api.Version{Number: 1, Val: "x", Drop: true}))
}

// P8.2: the chapter's row.
func TestExamplesOfPut(t *testing.T) {
	puts(t, docList(), set(5, "z"), true, set(2, "x"), drop(4), set(5, "z"), set(6, "y"))
	puts(t, docList(), set(4, "z"), false, docList()...)
	noPut(t, docList(), set(0, "z"))
}

// P8.3: the chapter's row.
func TestExamplesOfAt(t *testing.T) {
	noneAt(t, docList(), 1)
	at(t, docList(), 3, set(2, "x"))
	at(t, docList(), 4, drop(4))
	at(t, docList(), 100, set(6, "y"))
}

// P8.4: the chapter's row.
func TestExamplesOfCollect(t *testing.T) {
	collects(t, docList(), 1, 0, docList()...)
	collects(t, docList(), 4, 1, drop(4), set(6, "y"))
	collects(t, docList(), 9, 2, set(6, "y"))
}

// P8.5: the chapter's row.
func TestExamplesOfDump(t *testing.T) {
	dumps(t, docList(), 3, []int{6}, set(2, "x"), set(6, "y"))
	dumps(t, docList(), 4, nil)
	dumps(t, docList(), 1, []int{6, 4}, drop(4), set(6, "y"))
	dumps(t, docList(), 9, []int{6}, set(6, "y"))
}

// P8.1: lists that may be: none, the bounds of the numbers and of the values, as many as there are numbers.
func TestListsThatMayBe(t *testing.T) {
	for _, l := range [][]api.Version{
		nil, {}, list(set(1, "")), list(drop(1)), list(set(api.MaxLog, "x")), list(drop(api.MaxLog)),
		list(set(1, "x"), set(2, "x")), list(drop(1), drop(api.MaxLog)), list(set(1, long(api.MaxVal)), set(2, long(api.MaxVal))),
		list(set(1, "\x00\xff")), full(),
	} {
		accepted(t, l)
	}
}

// P8.1: each thing that may not be, wherever it stands.
func TestListsThatMayNotBe(t *testing.T) {
	for _, v := range []api.Version{
		{}, {Drop: true}, set(0, "x"), set(-1, "x"), set(math.MinInt, ""), set(api.MaxLog+1, "x"), drop(api.MaxLog + 1), set(math.MaxInt, ""), set(1<<32+5, ""), set(-1<<32+5, ""),
		set(5, long(api.MaxVal+1)), set(5, long(70000)),
		{Number: 5, Val: "x", Drop: true}, {Number: 5, Val: "\x00", Drop: true}, {Number: 5, Val: long(api.MaxVal + 1), Drop: true},
	} {
		refused(t, list(v))
		refused(t, list(v, set(6, "y")))
		refused(t, list(set(4, "y"), v))
		refused(t, list(drop(4), v, set(6, "y")))
		for _, l := range [][]api.Version{nil, docList(), list(set(5, "x"))} {
			noPut(t, l, v)
		}
	}
	refused(t, list(set(1, "x"), set(3, "x"), set(2, "x")))
	refused(t, list(set(2, "x"), set(1, "x"), set(3, "x")))
	refused(t, list(set(1, "x"), set(2, "x"), set(2, "x")))
	refused(t, list(drop(2), set(2, "x"), set(3, "x")))
	refused(t, list(set(api.MaxLog, "x"), set(1, "x")))
	refused(t, append(full(), set(api.MaxLog+1, "x")))
	refused(t, append(full(), set(api.MaxLog, "x")))
}

// P8.2: ahead of all, between, behind all, into nothing; a Drop too; the greatest that may be.
func TestPut(t *testing.T) {
	l := docList()
	for _, v := range []api.Version{set(1, ""), drop(1)} {
		puts(t, l, v, true, v, l[0], l[1], l[2])
	}
	puts(t, l, drop(3), true, l[0], drop(3), l[1], l[2])
	for _, v := range []api.Version{set(7, "z"), drop(api.MaxLog), set(api.MaxLog, long(api.MaxVal))} {
		puts(t, l, v, true, l[0], l[1], l[2], v)
		puts(t, nil, v, true, v)
		puts(t, []api.Version{}, v, true, v)
	}
	puts(t, list(set(1, "x"), set(api.MaxLog, "y")), set(2, "z"), true, set(1, "x"), set(2, "z"), set(api.MaxLog, "y"))
}

// P8.2: a number that is there stays as it is, whatever comes.
func TestPutOfWhatIsThere(t *testing.T) {
	for _, old := range docList() {
		for _, v := range []api.Version{set(old.Number, "other"), set(old.Number, ""), drop(old.Number), old} {
			puts(t, docList(), v, false, docList()...)
		}
	}
	l := full()
	for _, n := range []int{1, 2, 777, api.MaxLog - 1, api.MaxLog} {
		puts(t, l, set(n, "w"), false, l...)
		less := slices.Delete(slices.Clone(l), n-1, n)
		puts(t, less, l[n-1], true, l...)
	}
}

// P8.3: any int is a mark.
func TestAt(t *testing.T) {
	l := docList()
	for _, mark := range []int{math.MinInt, -1 << 32, -1, 0, 1} {
		noneAt(t, l, mark)
	}
	for mark, want := range map[int]api.Version{2: l[0], 3: l[0], 4: l[1], 5: l[1], 6: l[2], 7: l[2], api.MaxLog: l[2], api.MaxLog + 1: l[2], 1<<32 + 1: l[2], math.MaxInt: l[2]} {
		at(t, l, mark, want)
	}
	for _, mark := range []int{math.MinInt, 0, 1, math.MaxInt} {
		noneAt(t, nil, mark)
		noneAt(t, []api.Version{}, mark)
	}
	all := full()
	for _, mark := range []int{1, 2, 4000, api.MaxLog} {
		at(t, all, mark, set(mark, "v"))
	}
	noneAt(t, all, 0)
	at(t, all, math.MaxInt, set(api.MaxLog, "v"))
	at(t, list(set(1, long(api.MaxVal))), 1, set(1, long(api.MaxVal)))
}

// P8.4: any int may be the least one; where all are above it nothing goes; a Drop stays as another does.
func TestCollect(t *testing.T) {
	l := docList()
	for _, least := range []int{math.MinInt, -1 << 32, -1, 0, 1, 2, 3} {
		collects(t, l, least, 0, l...)
	}
	for _, least := range []int{4, 5} {
		collects(t, l, least, 1, l[1], l[2])
	}
	for _, least := range []int{6, 7, api.MaxLog, api.MaxLog + 1, 1<<32 + 1, math.MaxInt} {
		collects(t, l, least, 2, l[2])
	}
	for _, least := range []int{math.MinInt, 0, 1, math.MaxInt} {
		collects(t, nil, least, 0)
		collects(t, []api.Version{}, least, 0)
		collects(t, list(drop(1)), least, 0, drop(1))
	}
	all := full()
	collects(t, all, 0, 0, all...)
	collects(t, all, 1, 0, all...)
	collects(t, all, 2, 1, all[1:]...)
	collects(t, all, api.MaxLog-1, api.MaxLog-2, all[api.MaxLog-2:]...)
	collects(t, all, math.MaxInt, api.MaxLog-1, all[api.MaxLog-1])
}

// P8.5: a Drop at the mark is left out, one beyond is not; what stands in beyond at or below the mark counts for nothing.
func TestDump(t *testing.T) {
	l := list(set(2, "x"), drop(4), set(6, "y"), drop(8), set(9, ""))
	everything := []int{9, 8, 6, 4, 2}
	for _, mark := range []int{math.MinInt, -1, 0, 1} {
		dumps(t, l, mark, nil)
		dumps(t, l, mark, everything, l...)
		dumps(t, l, mark, []int{8, 2}, l[0], l[3])
	}
	for _, mark := range []int{2, 3} {
		dumps(t, l, mark, nil, l[0])
		dumps(t, l, mark, everything, l...)
		dumps(t, l, mark, []int{2}, l[0])
		dumps(t, l, mark, []int{4}, l[0], l[1])
	}
	for _, mark := range []int{4, 5} {
		dumps(t, l, mark, []int{4, 2})
		dumps(t, l, mark, everything, l[2], l[3], l[4])
		dumps(t, l, mark, []int{8}, l[3])
	}
	dumps(t, l, 6, everything, l[2], l[3], l[4])
	dumps(t, l, 8, everything, l[4])
	for _, mark := range []int{9, 10, api.MaxLog, api.MaxLog + 1, 1<<32 + 1, math.MaxInt} {
		dumps(t, l, mark, nil, l[4])
		dumps(t, l, mark, everything, l[4])
		dumps(t, l[:4], mark, everything)
	}
}

// P8.5: beyond is any ints, in any order, as often as they like.
func TestBeyond(t *testing.T) {
	l := docList()
	for _, beyond := range [][]int{
		{6, 4}, {4, 6}, {6, 4, 6, 6, 4}, {math.MaxInt, 6, math.MinInt, 4}, {5, 6, 3, 4, 7, 1, 0, -4, -6},
		{1<<32 + 2, 6, 1<<16 + 2, 4}, {6, api.MaxLog, api.MaxLog + 1, 4},
	} {
		dumps(t, l, 3, beyond, l...)
		dumps(t, l, 1, beyond, l[1], l[2])
		dumps(t, l, 5, beyond, l[2])
	}
	for _, beyond := range [][]int{nil, {}, {5}, {3, 7, 0, -4, -6, 2}, {1<<32 + 4, 1<<32 + 6}, {math.MinInt, math.MaxInt}} {
		dumps(t, l, 3, beyond, l[0])
		dumps(t, nil, 3, beyond)
	}
	all := full()
	every := make([]int, 0, 2*api.MaxLog)
	for n := api.MaxLog; n > -api.MaxLog; n-- {
		every = append(every, n)
	}
	dumps(t, all, 0, every, all...)
	dumps(t, all, 30000, every, all[29999:]...)
	dumps(t, all, 30000, every[:10], slices.Concat(all[29999:30000], all[api.MaxLog-10:])...)
}
