package deps_test

import (
	"math"
	"slices"
	"strconv"
	"strings"
	"testing"

	"towpath/api"
	"towpath/deps"
)

// long: a text of n bytes.
func long(n int) string { return strings.Repeat("k", n) }

// txn: of a number, that writes these keys, in this order.
func txn(number int, keys ...string) api.Txn {
	x := api.Txn{Number: number}
	for _, key := range keys {
		x.Writes = append(x.Writes, api.Write{Key: key, Val: "v"})
	}
	return x
}

// texts: n keys, all different, that begin with one text.
func texts(begin string, n int) []string {
	l := make([]string, n)
	for i := range l {
		l[i] = begin + strconv.Itoa(i)
	}
	return l
}

// adds: does Add answer that it waits for so many?
func adds(t *testing.T, x *deps.Table, y api.Txn, want int) {
	t.Helper()
	if n, e := x.Add(y); n != want || e != api.OK {
		t.Errorf("Add(%d) = %d, %v, want %d", y.Number, n, e, want)
	}
}

// noAdd: does Add answer this error?
func noAdd(t *testing.T, x *deps.Table, y api.Txn, want api.Errno) {
	t.Helper()
	if n, e := x.Add(y); n != 0 || e != want {
		t.Errorf("Add(%d, with %d writes) = %d, %v, want %v", y.Number, len(y.Writes), n, e, want)
	}
}

// done: does Done answer that these wait for none any more?
func done(t *testing.T, x *deps.Table, number int, want ...int) {
	t.Helper()
	if l, e := x.Done(number); !slices.Equal(l, want) || e != api.OK {
		t.Errorf("Done(%d) = %v, %v, want %v", number, l, e, want)
	}
}

// notDone: does Done answer this error?
func notDone(t *testing.T, x *deps.Table, number int, want api.Errno) {
	t.Helper()
	if l, e := x.Done(number); len(l) != 0 || e != want {
		t.Errorf("Done(%d) = %v, %v, want %v", number, l, e, want)
	}
}

// waits: does Waits answer these?
func waits(t *testing.T, x *deps.Table, number int, want ...int) {
	t.Helper()
	if l, e := x.Waits(number); !slices.Equal(l, want) || e != api.OK {
		t.Errorf("Waits(%d) = %v, %v, want %v", number, l, e, want)
	}
}

// noWaits: does Waits answer this error?
func noWaits(t *testing.T, x *deps.Table, number int, want api.Errno) {
	t.Helper()
	if l, e := x.Waits(number); len(l) != 0 || e != want {
		t.Errorf("Waits(%d) = %v, %v, want %v", number, l, e, want)
	}
}

// open: does Open answer these?
func open(t *testing.T, x *deps.Table, want ...int) {
	t.Helper()
	if l := x.Open(); !slices.Equal(l, want) {
		t.Errorf("Open = %v, want %v", l, want)
	}
}

// last: does Last answer this number?
func last(t *testing.T, x *deps.Table, key string, want int) {
	t.Helper()
	if n := x.Last(key); n != want {
		t.Errorf("Last(%.80q) = %d, want %d", key, n, want)
	}
}

// Each row of the chapter's examples.
func TestExamples(t *testing.T) {
	x := deps.New()
	adds(t, x, txn(1, "a"), 0)
	adds(t, x, txn(2, "b"), 0)
	adds(t, x, api.Txn{Number: 3, Writes: []api.Write{{Key: "a", Val: "3"}, {Key: "b", Drop: true}}}, 2)

	waits(t, x, 3, 1, 2)
	waits(t, x, 1)
	open(t, x, 1, 2, 3)
	last(t, x, "a", 3)
	last(t, x, "c", 0)

	notDone(t, x, 3, api.ErrOrder)
	notDone(t, x, 4, api.ErrArg)
	noAdd(t, x, txn(3), api.ErrOrder)
	noAdd(t, x, txn(4, texts("k", 33)...), api.ErrArg)

	done(t, x, 2)
	waits(t, x, 3, 1)
	done(t, x, 1, 3)
	notDone(t, x, 1, api.ErrArg)
	open(t, x, 3)

	adds(t, x, txn(5, "a"), 1)
	done(t, x, 3, 5)
	adds(t, x, txn(6, "a", "a"), 1)
	last(t, x, "a", 6)
}

// P11.1: none was added.
func TestNew(t *testing.T) {
	x := deps.New()
	if x == nil {
		t.Fatal("New = nil")
	}
	open(t, x)
	for _, key := range []string{"", "a", long(api.MaxKey), long(70000)} {
		last(t, x, key, 0)
	}
	for _, n := range numbers() {
		notDone(t, x, n, api.ErrArg)
		noWaits(t, x, n, api.ErrArg)
	}
	adds(t, x, txn(1, "a"), 0)
}

// numbers: ints of all kinds, bounds among them.
func numbers() []int {
	return []int{math.MinInt, -1 << 32, -65537, -65536, -2, -1, 0, 1, 2, 64, 65535, 65536, 65537, 1<<31 - 1, 1 << 31, 1<<32 + 1, math.MaxInt}
}

// R3: a table that is not there, and one that New did not make.
func TestTableThatIsNotThere(t *testing.T) {
	for _, x := range []*deps.Table{nil, {}} {
		for range 2 {
			noAdd(t, x, txn(1, "a"), api.ErrNil)
			noAdd(t, x, txn(0, ""), api.ErrNil)
			for _, n := range numbers() {
				notDone(t, x, n, api.ErrNil)
				noWaits(t, x, n, api.ErrNil)
			}
			open(t, x)
			last(t, x, "a", 0)
			last(t, x, "", 0)
		}
	}
}

// wrong: transactions that may not be; their numbers may, but where the number is what is wrong.
func wrong() []api.Txn {
	of := func(w ...api.Write) api.Txn { return api.Txn{Number: 2, Writes: w} }
	good := api.Write{Key: "a"}
	l := []api.Txn{
		txn(2, texts("k", api.MaxWrites+1)...), txn(2, ""), txn(2, long(api.MaxKey+1)),
		of(api.Write{Key: "a", Val: long(api.MaxVal + 1)}), of(api.Write{Key: "a", Val: "v", Drop: true}),
		of(good, api.Write{}), of(api.Write{}, good), {Number: 2, Writes: make([]api.Write, 70000)},
	}
	for _, n := range numbers() {
		if n < 1 || n > api.MaxLog {
			l = append(l, txn(n, "a"), txn(n))
		}
	}
	return l
}

// P11.2: what may not be is refused, ahead of its turn, and leaves all as it was.
func TestAddOfWhatMayNotBe(t *testing.T) {
	x := deps.New()
	for _, y := range wrong() {
		noAdd(t, x, y, api.ErrArg)
		open(t, x)
		last(t, x, "a", 0)
	}
	adds(t, x, txn(1, "a"), 0)
	for _, y := range wrong() {
		noAdd(t, x, y, api.ErrArg)
	}
	adds(t, x, txn(4, "a"), 1)
	for _, y := range wrong() { // not their turn either: ErrArg is named first
		noAdd(t, x, y, api.ErrArg)
		open(t, x, 1, 4)
		waits(t, x, 4, 1)
		last(t, x, "a", 4)
		last(t, x, "k0", 0)
		last(t, x, "", 0)
	}
	adds(t, x, txn(5, "a"), 1)
}

// P11.2: the number must be above those of all that were added, open or not; numbers may be left out.
func TestAddInTurn(t *testing.T) {
	x := deps.New()
	adds(t, x, txn(7, "a"), 0)
	for _, n := range []int{1, 6, 7} {
		noAdd(t, x, txn(n, "b"), api.ErrOrder)
		last(t, x, "b", 0)
		open(t, x, 7)
	}
	done(t, x, 7)
	for _, n := range []int{1, 6, 7} {
		noAdd(t, x, txn(n, "a"), api.ErrOrder)
		noAdd(t, x, txn(n), api.ErrOrder)
		last(t, x, "a", 7)
		open(t, x)
	}
	adds(t, x, txn(8, "a"), 0)
	adds(t, x, txn(api.MaxLog, "a"), 1)
	for _, n := range []int{8, 9, api.MaxLog - 1, api.MaxLog} {
		noAdd(t, x, txn(n, "c"), api.ErrOrder)
	}
	noAdd(t, x, txn(api.MaxLog+1, "c"), api.ErrArg)
	open(t, x, 8, api.MaxLog)
}

// P11.2: each counts once, however many keys both have; one does not wait for itself.
func TestAddCountsEachOnce(t *testing.T) {
	x := deps.New()
	adds(t, x, txn(1, "a", "a", "b", "a"), 0)
	adds(t, x, txn(2, "b", "a", "b", "a"), 1)
	waits(t, x, 2, 1)
	adds(t, x, txn(3, "c", "d"), 0)
	adds(t, x, txn(4, "d", "a", "c", "b", "e", "d", "e"), 2)
	waits(t, x, 4, 2, 3)
	done(t, x, 1, 2)
	done(t, x, 3)
	done(t, x, 2, 4)
	done(t, x, 4)
	open(t, x)
}

// P11.2: one waits for the last writer alone; if that one has ended, for none, though it may have come in between.
func TestAddWaitsForTheLastWriter(t *testing.T) {
	x := deps.New()
	adds(t, x, txn(1, "a"), 0)
	adds(t, x, txn(2, "a", "b"), 1)
	adds(t, x, txn(3, "a"), 1)
	waits(t, x, 3, 2)
	adds(t, x, txn(4, "b"), 1)
	waits(t, x, 4, 2)
	done(t, x, 1, 2)
	done(t, x, 2, 3, 4)
	adds(t, x, txn(5, "b", "a"), 2)
	waits(t, x, 5, 3, 4)
	done(t, x, 4)
	done(t, x, 3, 5)
	done(t, x, 5)
	adds(t, x, txn(6, "a", "b"), 0)
	waits(t, x, 6)
}

// P11.2: no writes, and as many as may be; keys of any bytes and of all lengths, held against each other byte by byte.
func TestAddOfManyKinds(t *testing.T) {
	x := deps.New()
	adds(t, x, txn(1), 0)
	adds(t, x, txn(2), 0)
	adds(t, x, api.Txn{Number: 3, Writes: []api.Write{}}, 0)
	open(t, x, 1, 2, 3)
	done(t, x, 2)
	done(t, x, 3)
	done(t, x, 1)

	keys := []string{"\x00", "\x00\x00", "a", "a\x00", "A", "\xff", "\xff\xff", "é", "\xc3", long(api.MaxKey), long(api.MaxKey - 1)}
	for i, key := range keys {
		adds(t, x, txn(4+i, key), 0)
	}
	n := 4 + len(keys)
	adds(t, x, txn(n, keys...), len(keys))
	for i, key := range keys {
		last(t, x, key, n)
		done(t, x, 4+i, slices.Repeat([]int{n}, (i+1)/len(keys))...)
	}
	for _, key := range []string{"", "\x00\x00\x00", "b", "aa", "e", "\xa9", long(api.MaxKey - 2), long(api.MaxKey + 1)} {
		last(t, x, key, 0)
	}
	done(t, x, n)
}

// P11.2 to P11.4: as many keys as may be, all of which others wrote, and others write.
func TestManyWaits(t *testing.T) {
	x := deps.New()
	keys := texts("k", api.MaxWrites)
	var early, late []int
	for i, key := range keys {
		adds(t, x, txn(i+1, key), 0)
		early = append(early, i+1)
	}
	adds(t, x, txn(100, keys...), api.MaxWrites)
	for i, key := range keys {
		adds(t, x, txn(201+i, key), 1)
		waits(t, x, 201+i, 100)
		late = append(late, 201+i)
	}
	waits(t, x, 100, early...)
	for i := len(early) - 1; i > 0; i-- {
		notDone(t, x, 100, api.ErrOrder)
		done(t, x, early[i])
		waits(t, x, 100, early[:i]...)
	}
	done(t, x, 1, 100)
	waits(t, x, 100)
	open(t, x, append([]int{100}, late...)...)
	done(t, x, 100, late...)
	open(t, x, late...)
}

// P11.3: what is not open is ErrArg; what waits is ErrOrder; both change nothing.
func TestDoneOfWhatMayNotEnd(t *testing.T) {
	x := deps.New()
	adds(t, x, txn(2, "a"), 0)
	adds(t, x, txn(5, "a", "b"), 1)
	adds(t, x, txn(9, "b"), 1)
	for _, n := range append(numbers(), 3, 4, 6, 8, 10) {
		if n != 2 {
			notDone(t, x, n, api.ErrArg)
			noWaits(t, x, n, api.ErrArg)
		}
	}
	notDone(t, x, 5, api.ErrOrder)
	notDone(t, x, 9, api.ErrOrder)
	open(t, x, 2, 5, 9)
	waits(t, x, 5, 2)
	waits(t, x, 9, 5)
	done(t, x, 2, 5)
	notDone(t, x, 2, api.ErrArg)
	noWaits(t, x, 2, api.ErrArg)
	notDone(t, x, 9, api.ErrOrder)
	done(t, x, 5, 9)
	done(t, x, 9)
	for _, n := range []int{2, 5, 9} {
		notDone(t, x, n, api.ErrArg)
		noWaits(t, x, n, api.ErrArg)
	}
	open(t, x)
}

// P11.3: only those that wait for none any more are told; rising.
func TestDoneTells(t *testing.T) {
	x := deps.New()
	adds(t, x, txn(1, "a", "b", "c", "d"), 0)
	adds(t, x, txn(2, "e"), 0)
	adds(t, x, txn(3, "d"), 1)
	adds(t, x, txn(4, "e", "c"), 2)
	adds(t, x, txn(5, "b", "f"), 1)
	adds(t, x, txn(6, "a", "f"), 2)
	adds(t, x, txn(7, "g"), 0)
	done(t, x, 7)
	done(t, x, 1, 3, 5)
	waits(t, x, 4, 2)
	waits(t, x, 6, 5)
	done(t, x, 5, 6)
	done(t, x, 6)
	done(t, x, 2, 4)
	open(t, x, 3, 4)
}

// P11.5: the last writer stays so when it has ended, and whatever Done and refused Adds come; a Drop is a write too.
func TestLast(t *testing.T) {
	x := deps.New()
	adds(t, x, txn(3, "a", "b"), 0)
	adds(t, x, api.Txn{Number: 5, Writes: []api.Write{{Key: "b", Drop: true}}}, 1)
	for range 2 {
		last(t, x, "a", 3)
		last(t, x, "b", 5)
		last(t, x, "c", 0)
		last(t, x, "", 0)
		last(t, x, "ab", 0)
		if len(x.Open()) > 0 {
			done(t, x, 3, 5)
			last(t, x, "a", 3)
			last(t, x, "b", 5)
			done(t, x, 5)
		}
		noAdd(t, x, txn(5, "a", "c"), api.ErrOrder)
		noAdd(t, x, txn(6, "a", ""), api.ErrArg)
	}
	adds(t, x, txn(9, "a"), 0)
	last(t, x, "a", 9)
	last(t, x, "b", 5)
}

// P11.2, P11.3: a whole log open, each of which writes one key less than the one ahead of it, which it waits for; but the 32nd one of each round writes all of them, and waits for the whole round.
func TestAsManyAsThereMayBe(t *testing.T) {
	x := deps.New()
	wide := texts("k", api.MaxWrites)
	adds(t, x, txn(1, wide...), 0)
	for n := 2; n <= api.MaxLog; n++ {
		want := 1
		if n%32 == 0 {
			want = min(n-1, 32)
		}
		adds(t, x, txn(n, wide[n%32:]...), want)
	}
	noAdd(t, x, txn(api.MaxLog, "a"), api.ErrOrder)
	if l := x.Open(); len(l) != api.MaxLog || l[0] != 1 || l[api.MaxLog-1] != api.MaxLog || !slices.IsSorted(l) {
		t.Errorf("Open: %d", len(l))
	}
	told := 0
	for n := 1; n <= api.MaxLog && !t.Failed(); n++ {
		l, e := x.Done(n)
		if e != api.OK {
			t.Errorf("Done(%d) = %v, %v", n, l, e)
		}
		told += len(l)
	}
	if told != api.MaxLog-1 {
		t.Errorf("%d were told", told)
	}
	open(t, x)
}

// R4: what is handed in is neither changed nor kept; what is answered is new each time.
func TestAnswersAreNewMemory(t *testing.T) {
	x := deps.New()
	adds(t, x, txn(1, "a"), 0)
	adds(t, x, txn(2, "b", "c", "d"), 0)
	room := append(make([]api.Write, 0, 8), txn(0, "b", "a", "b").Writes...)
	adds(t, x, api.Txn{Number: 3, Writes: room}, 2)
	if !slices.Equal(room[:8], append(txn(0, "b", "a", "b").Writes, make([]api.Write, 5)...)) {
		t.Errorf("Add changed what it was handed: %v", room[:8])
	}
	room[0].Key, room[1].Key = "x", "y"
	last(t, x, "b", 3)
	last(t, x, "x", 0)
	adds(t, x, txn(4, "c"), 1)
	adds(t, x, txn(5, "d"), 1)
	spoil := func(l []int) {
		l = l[:cap(l)]
		for i := range l {
			l[i] = 9
		}
	}
	w, _ := x.Waits(3)
	spoil(w)
	waits(t, x, 3, 1, 2)
	spoil(x.Open())
	open(t, x, 1, 2, 3, 4, 5)
	done(t, x, 1)
	l, e := x.Done(2)
	if e != api.OK || !slices.Equal(l, []int{3, 4, 5}) {
		t.Errorf("Done(2) = %v, %v", l, e)
	}
	spoil(l)
	open(t, x, 3, 4, 5)
	waits(t, x, 3)
	done(t, x, 4)
}

// R5: two tables share nothing.
func TestTablesShareNothing(t *testing.T) {
	x, y := deps.New(), deps.New()
	adds(t, x, txn(3, "a"), 0)
	adds(t, y, txn(1, "a"), 0)
	adds(t, y, txn(3, "a"), 1)
	last(t, x, "a", 3)
	done(t, x, 3)
	open(t, x)
	open(t, y, 1, 3)
	waits(t, y, 3, 1)
}
