package gate_test

import (
	"math"
	"slices"
	"testing"

	"towpath/api"
	"towpath/gate"
)

// made: a gate of New, that must answer one.
func made(t *testing.T, mark int, beyond ...int) *gate.Gate {
	t.Helper()
	g, e := gate.New(mark, beyond)
	if g == nil || e != api.OK {
		t.Fatalf("New(%d, %v): %v", mark, beyond, e)
	}
	return g
}

// notMade: does New answer ErrArg, and no gate?
func notMade(t *testing.T, mark int, beyond ...int) {
	t.Helper()
	if g, e := gate.New(mark, beyond); g != nil || e != api.ErrArg {
		t.Errorf("New(%d, %v): %v, want %v", mark, beyond, e, api.ErrArg)
	}
}

// done: does Done answer that the mark has gone up by so much?
func done(t *testing.T, g *gate.Gate, number, want int) {
	t.Helper()
	if up, e := g.Done(number); up != want || e != api.OK {
		t.Errorf("Done(%d) = %d, %v, want %d", number, up, e, want)
	}
}

// notDone: does Done answer this error?
func notDone(t *testing.T, g *gate.Gate, number int, want api.Errno) {
	t.Helper()
	if up, e := g.Done(number); up != 0 || e != want {
		t.Errorf("Done(%d) = %d, %v, want %v", number, up, e, want)
	}
}

// has: does Has answer so, of each of these numbers?
func has(t *testing.T, g *gate.Gate, want bool, numbers ...int) {
	t.Helper()
	for _, n := range numbers {
		if got := g.Has(n); got != want {
			t.Errorf("Has(%d) = %v", n, got)
		}
	}
}

// is: has the gate this mark, and are these beyond it?
func is(t *testing.T, g *gate.Gate, mark int, beyond ...int) {
	t.Helper()
	if m, l := g.Mark(), g.Beyond(); m != mark || !slices.Equal(l, beyond) {
		t.Errorf("the mark %d, beyond it %v; want %d, %v", m, l, mark, beyond)
	}
}

// outside: ints of all kinds that are no numbers of a log.
func outside() []int {
	return []int{math.MinInt, math.MinInt + 1, -1 << 32, -1<<32 + 1, -65537, -65536, -65535, -65, -64, -63, -2, -1, 0, 65537, 65538, 65599, 65600, 65601, 131072, 131073, 1<<31 - 1, 1 << 31, 1 << 32, 1<<32 + 1, math.MaxInt - 1, math.MaxInt}
}

// edges: numbers where a word of 64 bits, or of 32, begins or ends, and the least and greatest ones; rising.
func edges() []int {
	l := []int{1, 2, 3}
	for _, n := range []int{8, 32, 64, 96, 128, 192, 256, 4096, 32768, 65472, 65504} {
		l = append(l, n-1, n, n+1, n+2)
	}
	return append(l, 65534, 65535, 65536)
}

// upTo: the numbers from one to another.
func upTo(from, to int) []int {
	var l []int
	for n := from; n <= to; n++ {
		l = append(l, n)
	}
	return l
}

// Each row of the chapter's examples.
func TestExamples(t *testing.T) {
	g := made(t, 3, 5, 7)
	notMade(t, 3, 4)
	notMade(t, 3, 5, 5)
	notMade(t, -1)
	notMade(t, 65536, 65538)

	has(t, g, true, 3)
	has(t, g, false, 4)
	has(t, g, true, 5)
	has(t, g, false, 0)
	is(t, g, 3, 5, 7)

	notDone(t, g, 5, api.ErrArg)
	notDone(t, g, 2, api.ErrArg)
	notDone(t, g, 0, api.ErrArg)
	notDone(t, g, 65537, api.ErrArg)

	done(t, g, 9, 0)
	is(t, g, 3, 5, 7, 9)
	done(t, g, 4, 2)
	is(t, g, 5, 7, 9)
	done(t, g, 6, 2)
	is(t, g, 7, 9)

	var none *gate.Gate
	notDone(t, none, 1, api.ErrNil)
	is(t, none, 0)
	has(t, none, false, 1)
}

// P12.1: a mark from 0 to MaxLog, none beyond it.
func TestNewAtAMark(t *testing.T) {
	for _, mark := range append(edges(), 0) {
		g := made(t, mark)
		is(t, g, mark)
		for _, n := range edges() {
			has(t, g, n <= mark, n)
		}
	}
	is(t, made(t, 5, []int{}...), 5)
	for _, mark := range outside() {
		if mark != 0 {
			notMade(t, mark)
			notMade(t, mark, 3)
			notMade(t, mark, 3, 2)
		}
	}
}

// P12.1: the least number beyond a mark is mark + 2, the greatest one MaxLog.
func TestNewAtItsBounds(t *testing.T) {
	for _, mark := range []int{0, 1, 62, 63, 64, 65, 1000, 65472, 65533, 65534} {
		is(t, made(t, mark, mark+2), mark, mark+2)
		is(t, made(t, mark, api.MaxLog), mark, api.MaxLog)
		notMade(t, mark, mark+1)
		notMade(t, mark, mark)
		notMade(t, mark, mark-1)
		notMade(t, mark, mark+1, mark+2)
		notMade(t, mark, api.MaxLog, api.MaxLog+1)
		for _, n := range outside() {
			notMade(t, mark, n)
			notMade(t, mark, mark+2, n)
		}
	}
	for _, mark := range []int{65535, 65536} { // there is no room beyond them
		is(t, made(t, mark), mark)
		for _, n := range append(outside(), edges()...) {
			notMade(t, mark, n)
		}
		notMade(t, mark, mark+1)
		notMade(t, mark, mark+2)
	}
}

// P12.1: beyond must rise, each number once, wherever it stands.
func TestNewOfWhatDoesNotRise(t *testing.T) {
	is(t, made(t, 1, 3, 4, 5, 9), 1, 3, 4, 5, 9)
	for _, l := range [][]int{
		{3, 3}, {4, 3}, {3, 4, 4}, {3, 4, 3}, {3, 5, 4}, {5, 3, 9}, {3, 70, 6}, {70, 6}, {3, 4, 5, 9, 9}, {3, 4, 5, 9, 2},
		{65536, 65536}, {65536, 3}, {3, 65536, 65535}, {3, 4, 5, 0}, {3, 4, 5, -6},
	} {
		notMade(t, 1, l...)
	}
	all := upTo(3, api.MaxLog)
	is(t, made(t, 1, all...), 1, all...)
	notMade(t, 1, append(all, api.MaxLog)...)
	notMade(t, 1, append(all, api.MaxLog+1)...)
	notMade(t, 1, slices.Repeat([]int{3}, 1<<20)...)
}

// P12.2: ErrArg changes nothing, of numbers that are none and of those that are there.
func TestDoneOfWhatMayNotBe(t *testing.T) {
	beyond := []int{102, 103, 128, 130, 191, 65536}
	g := made(t, 100, beyond...)
	for range 2 {
		for _, n := range outside() {
			notDone(t, g, n, api.ErrArg)
		}
		for _, n := range append(beyond, 1, 2, 63, 64, 65, 99, 100) {
			notDone(t, g, n, api.ErrArg)
		}
		is(t, g, 100, beyond...)
		has(t, g, false, 101, 104, 127, 129, 131, 190, 192, 65535)
	}
	done(t, g, 101, 3)
	for _, n := range upTo(1, 103) {
		notDone(t, g, n, api.ErrArg)
	}
	is(t, g, 103, beyond[2:]...)
	done(t, g, 104, 1)
}

// P12.2, P12.3: each bit has its own number, at the edges of the words too; what is set there comes out again.
func TestEachNumberAlone(t *testing.T) {
	for _, n := range edges()[1:] {
		g := made(t, 0)
		done(t, g, n, 0)
		is(t, g, 0, n)
		for _, other := range edges() {
			has(t, g, other == n, other)
		}
		has(t, g, false, outside()...)
		notDone(t, g, n, api.ErrArg)

		g = made(t, n-1)
		done(t, g, n, 1)
		is(t, g, n)
		notDone(t, g, n, api.ErrArg)

		g = made(t, n-2)
		done(t, g, n, 0)
		is(t, g, n-2, n)
		done(t, g, n-1, 2)
		is(t, g, n)
	}
}

// P12.2: the mark goes as far as all is there, over the words' edges, and not one further.
func TestMarkGoesAsFarAsAllIsThere(t *testing.T) {
	for _, c := range []struct{ mark, to int }{{0, 2}, {0, 63}, {0, 64}, {0, 65}, {30, 127}, {62, 64}, {63, 65}, {63, 200}, {64, 128}, {64, 129}, {1000, 5000}, {65470, 65535}} {
		g := made(t, c.mark, upTo(c.mark+2, c.to)...)
		done(t, g, c.mark+1, c.to-c.mark)
		is(t, g, c.to)
		has(t, g, false, c.to+1, c.to+2, c.to+64)

		if c.to+2 > api.MaxLog {
			continue
		}
		g = made(t, c.mark, append(upTo(c.mark+2, c.to), c.to+2)...)
		done(t, g, c.mark+1, c.to-c.mark)
		is(t, g, c.to, c.to+2)
		done(t, g, c.to+1, 2)
		is(t, g, c.to+2)
	}
}

// P12.2: up to the greatest number, behind which there is none.
func TestMarkReachesTheEnd(t *testing.T) {
	full := func(g *gate.Gate) {
		t.Helper()
		is(t, g, api.MaxLog)
		has(t, g, true, edges()...)
		has(t, g, false, outside()...)
		for _, n := range append(outside(), edges()...) {
			notDone(t, g, n, api.ErrArg)
		}
		is(t, g, api.MaxLog)
	}
	full(made(t, api.MaxLog))

	g := made(t, api.MaxLog-1)
	done(t, g, api.MaxLog, 1)
	full(g)

	g = made(t, api.MaxLog-2)
	done(t, g, api.MaxLog, 0)
	done(t, g, api.MaxLog-1, 2)
	full(g)

	g = made(t, 0, upTo(2, api.MaxLog)...)
	done(t, g, 1, api.MaxLog)
	full(g)

	g = made(t, 0)
	for n := api.MaxLog; n > 1; n-- {
		done(t, g, n, 0)
	}
	is(t, g, 0, upTo(2, api.MaxLog)...)
	done(t, g, 1, api.MaxLog)
	full(g)

	g = made(t, 0)
	for n := 1; n <= api.MaxLog; n++ {
		done(t, g, n, 1)
	}
	full(g)
}

// P12.3: whatever int is asked for, nothing changes.
func TestHasOfAnyInt(t *testing.T) {
	g := made(t, 64, 66, 128, 65536)
	for range 2 {
		has(t, g, true, 1, 2, 63, 64, 66, 128, 65536)
		has(t, g, false, 65, 67, 127, 129, 65535)
		has(t, g, false, outside()...)
		is(t, g, 64, 66, 128, 65536)
	}
}

// R3: a gate that is not there, and one that New did not make.
func TestGateThatIsNotThere(t *testing.T) {
	for _, g := range []*gate.Gate{nil, {}, new(gate.Gate)} {
		for range 2 {
			for _, n := range append(outside(), edges()...) {
				notDone(t, g, n, api.ErrNil)
				has(t, g, false, n)
			}
			is(t, g, 0)
		}
	}
}

// R4: what is handed in is neither changed nor kept; what is answered is new each time, its spare room too.
func TestAnswersAreNewMemory(t *testing.T) {
	room := append(make([]int, 0, 8), 5, 7, 9)
	g := made(t, 3, room...)
	if !slices.Equal(room[:8], []int{5, 7, 9, 0, 0, 0, 0, 0}) {
		t.Errorf("New changed what it was handed: %v", room[:8])
	}
	room[0], room[1], room[2] = 6, 6, 6
	is(t, g, 3, 5, 7, 9)
	l, again := g.Beyond(), g.Beyond()
	l = l[:cap(l)]
	for i := range l {
		l[i] = 1
	}
	is(t, g, 3, 5, 7, 9)
	if !slices.Equal(again, []int{5, 7, 9}) {
		t.Errorf("two answers share memory: %v", again)
	}
	again = append(again, 11)
	is(t, g, 3, 5, 7, 9)
	done(t, g, 4, 2)
	if !slices.Equal(again, []int{5, 7, 9, 11}) {
		t.Errorf("an answer changed: %v", again)
	}
}

// R5: two gates share nothing.
func TestGatesShareNothing(t *testing.T) {
	g, h := made(t, 0, 2, 70), made(t, 0, 2, 70)
	done(t, g, 1, 2)
	done(t, g, 65, 0)
	is(t, h, 0, 2, 70)
	done(t, h, 65, 0)
	done(t, h, 3, 0)
	is(t, g, 2, 65, 70)
	is(t, h, 0, 2, 3, 65, 70)
}
