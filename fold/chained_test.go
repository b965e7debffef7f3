package fold_test

import (
	"math"
	"testing"

	"towpath/api"
	"towpath/fold"
)

// writer: does Writer answer this number?
func writer(t *testing.T, l []api.Txn, number int, key string, want int) {
	t.Helper()
	if n, e := fold.Writer(l, number, key); n != want || e != api.OK {
		t.Errorf("Writer(%#v, %d, %q) = %d, %v, want %d", l, number, key, n, e, want)
	}
}

// noWriter: does Writer answer this error, and nothing beside it?
func noWriter(t *testing.T, l []api.Txn, number int, key string, want api.Errno) {
	t.Helper()
	if n, e := fold.Writer(l, number, key); n != 0 || e != want {
		t.Errorf("Writer(%d, %q) = %d, %v, want %v", number, key, n, e, want)
	}
}

// chained: does Chained answer so?
func chained(t *testing.T, l []api.Txn, i, j int, want bool) {
	t.Helper()
	if ok, e := fold.Chained(l, i, j); ok != want || e != api.OK {
		t.Errorf("Chained(%#v, %d, %d) = %v, %v, want %v", l, i, j, ok, e, want)
	}
}

// noChain: does Chained answer this error, and nothing beside it?
func noChain(t *testing.T, l []api.Txn, i, j int, want api.Errno) {
	t.Helper()
	if ok, e := fold.Chained(l, i, j); ok || e != want {
		t.Errorf("Chained(%d, %d) = %v, %v, want %v", i, j, ok, e, want)
	}
}

// P7.3: the chapter's row.
func TestExamplesOfWriter(t *testing.T) {
	writer(t, docLog(), 3, "a", 1)
	writer(t, docLog(), 4, "a", 3)
	writer(t, docLog(), 4, "b", 3) // a Drop is a write too
	writer(t, docLog(), 1, "a", 0)
	noWriter(t, docLog(), 5, "a", api.ErrArg)
}

// P7.4: the chapter's row.
func TestExamplesOfChained(t *testing.T) {
	chained(t, docLog(), 1, 2, false)
	chained(t, docLog(), 1, 3, true)
	chained(t, docLog(), 2, 3, true)
	noChain(t, docLog(), 3, 3, api.ErrArg)
	noChain(t, docLog(), 0, 1, api.ErrArg)
}

// P7.3: whoever asks, whether it writes the key or not; several writes of one key in one transaction are of one writer.
func TestWriter(t *testing.T) {
	l := log(writes(set("a", "1")), nil, writes(drop("a"), set("b", "1"), set("a", "2"), set("a", "3")), writes(set("aa", "")), writes(set("a", "4"), drop("a")))
	for i, want := range []int{0, 1, 1, 3, 3, 5} {
		writer(t, l, i+1, "a", want)
	}
	for i, want := range []int{0, 0, 0, 3, 3, 3} {
		writer(t, l, i+1, "b", want)
	}
	for i, want := range []int{0, 0, 0, 0, 4, 4} {
		writer(t, l, i+1, "aa", want)
		writer(t, l, i+1, "c", 0)
		writer(t, l, i+1, long(api.MaxKey), 0)
	}
}

// P7.3: number is from 1 to one more than there are, and the key may be.
func TestWriterOutOfItsBounds(t *testing.T) {
	for _, l := range [][]api.Txn{nil, {}, docLog(), empties(200)} {
		for _, n := range []int{0, -1, len(l) + 2, len(l) + 3, math.MinInt, math.MaxInt, 1<<32 + 1, -1<<32 + 1} {
			noWriter(t, l, n, "a", api.ErrArg)
			noWriter(t, l, n, "", api.ErrArg)
		}
		for _, n := range []int{1, len(l) + 1} {
			for _, key := range []string{"", long(api.MaxKey + 1), long(4000)} {
				noWriter(t, l, n, key, api.ErrArg)
			}
			if _, e := fold.Writer(l, n, "q"); e != api.OK {
				t.Errorf("Writer(%d) of %d = %v", n, len(l), e)
			}
		}
	}
	top := long(api.MaxKey)
	writer(t, log(writes(set(top, ""))), 2, top, 1)
}

// P7.4: chains that lead over others, that turn away, that lead only down.
func TestChained(t *testing.T) {
	over := log(writes(set("a", "")), writes(set("b", "")), writes(set("a", ""), set("c", "")), writes(drop("c"), drop("d")), writes(set("b", "")), writes(set("d", "")))
	for i, row := range [][]int{{3, 4, 6}, {5}, {4, 6}, {6}, nil} {
		for j := i + 2; j <= len(over); j++ {
			want := false
			for _, n := range row {
				want = want || n == j
			}
			chained(t, over, i+1, j, want)
		}
	}
	// 2 and 3 both have a key in common with 1 and with 4, but they are not chained to each other
	fork := log(writes(set("a", ""), set("b", "")), writes(set("a", "")), writes(set("b", "")), writes(set("a", ""), set("b", "")))
	chained(t, fork, 1, 2, true)
	chained(t, fork, 1, 3, true)
	chained(t, fork, 2, 3, false)
	chained(t, fork, 2, 4, true)
	chained(t, fork, 3, 4, true)
	chained(t, fork, 1, 4, true)
	// 1 and 2 meet only in 3: a chain does not go up and down again
	meet := log(writes(set("a", "")), writes(set("b", "")), writes(set("a", ""), set("b", "")))
	chained(t, meet, 1, 2, false)
	// 4 writes a key of 3's alone, and 3 one of 1's
	handed := log(writes(set("a", "")), writes(set("b", "")), writes(set("a", ""), set("b", "")), writes(set("b", "")))
	chained(t, handed, 1, 4, true)
	chained(t, handed, 2, 4, true)
	away := log(writes(set("a", "")), writes(set("b", "")), writes(set("b", ""), set("a", "")), writes(set("c", "")))
	chained(t, away, 1, 4, false)
	chained(t, away, 3, 4, false)
	// several writes of one key are no chain of their own
	again := log(writes(set("a", ""), drop("a"), set("a", "")), writes(set("b", "")), writes(drop("a"), drop("a")), writes(set("a", "")))
	chained(t, again, 1, 2, false)
	chained(t, again, 1, 3, true)
	chained(t, again, 1, 4, true)
	chained(t, again, 2, 4, false)
	chained(t, again, 3, 4, true)
}

// P7.4: 1 <= i < j <= as many as there are.
func TestChainedOutOfItsBounds(t *testing.T) {
	for _, l := range [][]api.Txn{nil, {}, empties(1), docLog(), empties(70)} {
		n := len(l)
		for _, c := range [][2]int{
			{0, 1}, {0, 0}, {-1, 1}, {1, 1}, {n, n}, {n, n + 1}, {1, n + 1}, {2, 1}, {n + 1, n}, {n + 1, n + 2}, {0, n}, {-1, n},
			{math.MinInt, math.MaxInt}, {1, math.MaxInt}, {math.MinInt, 1}, {math.MaxInt, 1}, {math.MaxInt, math.MaxInt}, {1, math.MinInt},
		} {
			noChain(t, l, c[0], c[1], api.ErrArg)
		}
	}
	chained(t, empties(2), 1, 2, false)
	chained(t, empties(70), 1, 70, false)
	chained(t, empties(70), 69, 70, false)
}

// P7.3, P7.4: of as many as may be; one more may not.
func TestTheLongestLog(t *testing.T) {
	l := empties(api.MaxLog)
	for i := range l {
		// each has a key in common with the next one, but from 30000 to 30001
		l[i].Writes = writes(set(name(i), "v"), set(name(i+1), ""))
	}
	l[30000].Writes = l[30000].Writes[1:]
	chained(t, l, 1, 30000, true)
	chained(t, l, 1, 30001, false)
	chained(t, l, 1, api.MaxLog, false)
	chained(t, l, 30001, api.MaxLog, true)
	writer(t, l, api.MaxLog+1, name(api.MaxLog), api.MaxLog)
	writer(t, l, api.MaxLog, name(api.MaxLog), 0)
	noWriter(t, l, api.MaxLog+2, "a", api.ErrArg)
	if x, e := fold.Store(l, api.MaxLog); e != api.OK || len(x) != api.MaxLog+1 {
		t.Errorf("Store: %d, %v", len(x), e)
	}
	more := append(l, api.Txn{Number: api.MaxLog + 1})
	refusedByAll(t, more, api.ErrArg)
}

// name: a key of a number, in three bytes.
func name(n int) string { return string([]byte{byte(n), byte(n >> 8), byte(n >> 16)}) }
