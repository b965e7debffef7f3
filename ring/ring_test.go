package ring_test

import (
	"math"
	"runtime"
	"slices"
	"testing"
	"weak"

	"towpath/api"
	"towpath/ring"
)

// most is the greatest capacity, by the chapter.
const most = 65536

// made: a new ring of ints of this capacity.
func made(t *testing.T, capacity int) *ring.Ring[int] {
	t.Helper()
	return madeOf[int](t, capacity)
}

// madeOf: a new ring of things of a kind.
func madeOf[T any](t *testing.T, capacity int) *ring.Ring[T] {
	t.Helper()
	r, e := ring.New[T](capacity)
	if r == nil || e != api.OK {
		t.Fatalf("New(%d) = %v, %v", capacity, r, e)
	}
	return r
}

// all: what All hands on.
func all(r *ring.Ring[int]) []int {
	var l []int
	for x := range r.All() {
		l = append(l, x)
	}
	return l
}

// puts: each is put.
func puts(t *testing.T, r *ring.Ring[int], l ...int) {
	t.Helper()
	for _, x := range l {
		if !r.Put(x) {
			t.Fatalf("Put(%d) = false, with %v in it", x, all(r))
		}
	}
}

// noPut: a Put is refused, and nothing changes by it.
func noPut(t *testing.T, r *ring.Ring[int]) {
	t.Helper()
	before, room := all(r), r.Room()
	if r.Put(-7) {
		t.Errorf("Put = true, with %d in it", len(before))
	}
	has(t, r, room, before...)
}

// takes: they are taken, in this order.
func takes(t *testing.T, r *ring.Ring[int], l ...int) {
	t.Helper()
	for _, want := range l {
		if x, ok := r.Take(); x != want || !ok {
			t.Fatalf("Take = %d, %v, want %d", x, ok, want)
		}
	}
}

// has: so much room, and just these things, by all calls that change nothing.
func has(t *testing.T, r *ring.Ring[int], room int, l ...int) {
	t.Helper()
	if got := all(r); !slices.Equal(got, l) {
		t.Errorf("All: %v, want %v", got, l)
	}
	if r.Len() != len(l) || r.Room() != room {
		t.Errorf("Len = %d, Room = %d, want %d, %d", r.Len(), r.Room(), len(l), room)
	}
	x, ok := r.First()
	if len(l) > 0 && (x != l[0] || !ok) || len(l) == 0 && (x != 0 || ok) {
		t.Errorf("First = %d, %v, of %v", x, ok, l)
	}
}

// hasNone: so much room, and nothing to take.
func hasNone(t *testing.T, r *ring.Ring[int], room int) {
	t.Helper()
	has(t, r, room)
	if x, ok := r.Take(); x != 0 || ok {
		t.Errorf("Take = %d, %v, want none", x, ok)
	}
	has(t, r, room)
}

// overIs: the ring is over, or is not.
func overIs(t *testing.T, r *ring.Ring[int], want bool) {
	t.Helper()
	if got := r.Over(); got != want {
		t.Errorf("Over = %v, want %v", got, want)
	}
}

// upTo: 1, 2, .. n.
func upTo(n int) []int {
	l := make([]int, n)
	for i := range l {
		l[i] = i + 1
	}
	return l
}

// P10.1 to P10.5: the chapter's examples, a row each.
func TestExamples(t *testing.T) {
	for _, capacity := range []int{0, 65537} {
		if r, e := ring.New[int](capacity); r != nil || e != api.ErrArg {
			t.Errorf("New(%d) = %v, %v, want none and ErrArg", capacity, r, e)
		}
	}
	r := made(t, 2)
	puts(t, r, 1, 2)
	noPut(t, r)
	has(t, r, 0, 1, 2)

	takes(t, r, 1)
	has(t, r, 1, 2)
	puts(t, r, 4)
	has(t, r, 0, 2, 4)

	r.Close()
	has(t, r, 0, 2, 4)
	takes(t, r, 2)
	noPut(t, r)
	overIs(t, r, false)
	takes(t, r, 4)
	overIs(t, r, true)
	hasNone(t, r, 0)

	var none *ring.Ring[int]
	hasNone(t, none, 0)
	noPut(t, none)
	overIs(t, none, false)
}

// P10.1
func TestNewCapacities(t *testing.T) {
	for _, capacity := range []int{math.MinInt, -1 << 32, -most, -2, -1, 0, most + 1, 2 * most, 1 << 32, 1<<32 + 1, math.MaxInt} {
		if r, e := ring.New[int](capacity); r != nil || e != api.ErrArg {
			t.Errorf("New(%d) = %v, %v, want none and ErrArg", capacity, r, e)
		}
		if r, e := ring.New[[]string](capacity); r != nil || e != api.ErrArg {
			t.Errorf("New(%d) = %v, %v, want none and ErrArg", capacity, r, e)
		}
	}
	for _, capacity := range []int{1, 2, 3, 16, 1000, most - 1, most} {
		r := made(t, capacity)
		hasNone(t, r, capacity)
		overIs(t, r, false)
		puts(t, r, 5)
		has(t, r, capacity-1, 5)
	}
}

// P10.1: a ring costs no memory that nobody uses, however great its things.
func TestNewIsCheap(t *testing.T) {
	var before, after runtime.MemStats
	runtime.ReadMemStats(&before)
	r := madeOf[[1 << 16]byte](t, most)
	r.Put([1 << 16]byte{1})
	runtime.ReadMemStats(&after)
	if used := after.TotalAlloc - before.TotalAlloc; used > 1<<24 {
		t.Errorf("%d bytes for one thing of 65536", used)
	}
	if x, ok := r.Take(); x[0] != 1 || !ok || r.Room() != most {
		t.Errorf("Take = %d .., %v", x[0], ok)
	}
}

// P10.2, P10.3: just as many as the capacity says; one that is taken makes room for one.
func TestPutUpToTheCapacity(t *testing.T) {
	for _, capacity := range []int{1, 2, 3, 4, 5, 7, 8, 9, 31, 32, 33, most - 1, most} {
		r := made(t, capacity)
		l := upTo(capacity)
		for i, x := range l {
			puts(t, r, x)
			if r.Len() != i+1 || r.Room() != capacity-i-1 {
				t.Fatalf("behind %d of %d: Len = %d, Room = %d", i+1, capacity, r.Len(), r.Room())
			}
		}
		noPut(t, r)
		noPut(t, r)
		takes(t, r, 1)
		puts(t, r, capacity+1)
		noPut(t, r)
		has(t, r, 0, upTo(capacity + 1)[1:]...)
		takes(t, r, upTo(capacity + 1)[1:]...)
		hasNone(t, r, capacity)
	}
}

// P10.2, P10.6: in the order in which they were put, wherever in the ring they stand.
func TestTakeInOrderManyTimesRound(t *testing.T) {
	for capacity := 1; capacity <= 12; capacity++ {
		for held := 0; held < capacity; held++ {
			r := made(t, capacity)
			puts(t, r, upTo(held)...)
			for i := range 40 {
				puts(t, r, held+i+1)
				has(t, r, capacity-held-1, upTo(held + i + 1)[i:]...)
				takes(t, r, i+1)
			}
		}
	}
}

// P10.2, P10.6: a ring that gets more things than it ever had, its first one anywhere.
func TestMoreThanEver(t *testing.T) {
	for ahead := range 20 {
		for at := 0; at <= ahead; at++ {
			r := made(t, 50)
			puts(t, r, upTo(ahead)...)
			takes(t, r, upTo(at)...)
			more := upTo(50 + at)
			puts(t, r, more[ahead:]...)
			noPut(t, r)
			has(t, r, 0, more[at:]...)
			takes(t, r, more[at:]...)
			hasNone(t, r, 50)
		}
	}
}

// P10.3: First takes nothing, however often.
func TestFirstStays(t *testing.T) {
	r := made(t, 3)
	puts(t, r, 8, 9)
	for range 10 {
		has(t, r, 1, 8, 9)
	}
	takes(t, r, 8, 9)
	hasNone(t, r, 3)
}

// P10.4: closed with things or without, full or not; again; for ever.
func TestClose(t *testing.T) {
	for capacity := 1; capacity <= 5; capacity++ {
		for held := 0; held <= capacity; held++ {
			r := made(t, capacity)
			puts(t, r, upTo(held)...)
			overIs(t, r, false)
			for i := range held {
				r.Close()
				overIs(t, r, false)
				noPut(t, r)
				has(t, r, 0, upTo(held)[i:]...)
				takes(t, r, i+1)
			}
			r.Close()
			for range 3 {
				overIs(t, r, true)
				noPut(t, r)
				hasNone(t, r, 0)
				r.Close()
			}
		}
	}
}

// P10.4: a ring that has no things, and is not closed, is not over.
func TestEmptyIsNotOver(t *testing.T) {
	r := made(t, 1)
	overIs(t, r, false)
	for range 5 {
		puts(t, r, 1)
		takes(t, r, 1)
		overIs(t, r, false)
	}
}

// P10.5: until yield answers false, and not once more.
func TestAllStops(t *testing.T) {
	r := made(t, 5)
	puts(t, r, 0, 0, 1, 2, 3)
	takes(t, r, 0, 0)
	puts(t, r, 4, 5)
	for stop := 1; stop <= 6; stop++ {
		var got []int
		r.All()(func(x int) bool {
			got = append(got, x)
			return x != stop
		})
		if want := upTo(min(stop, 5)); !slices.Equal(got, want) {
			t.Errorf("stopped at %d: %v, want %v", stop, got, want)
		}
	}
	for x := range r.All() {
		if x == 3 {
			break
		}
		if x > 3 {
			t.Errorf("%d behind a break", x)
		}
	}
	has(t, r, 0, 1, 2, 3, 4, 5)
}

// P10.5: the things that are there when the function is called, not when All is; each time anew.
func TestAllIsAskedWhenCalled(t *testing.T) {
	r := made(t, 3)
	each := r.All()
	told := func(want ...int) {
		t.Helper()
		if got := slices.Collect(each); !slices.Equal(got, want) {
			t.Errorf("%v, want %v", got, want)
		}
	}
	told()
	puts(t, r, 1, 2)
	told(1, 2)
	told(1, 2)
	takes(t, r, 1)
	puts(t, r, 3, 4)
	told(2, 3, 4)
	r.Close()
	told(2, 3, 4)
	takes(t, r, 2, 3, 4)
	told()
}

// P10.5: what yield does to the ring changes nothing of what it is handed.
func TestAllWhileTheRingChanges(t *testing.T) {
	for name, change := range map[string]func(r *ring.Ring[int]){
		"takes":          func(r *ring.Ring[int]) { r.Take() },
		"takes all":      func(r *ring.Ring[int]) { takesAll(r) },
		"puts":           func(r *ring.Ring[int]) { r.Put(9) },
		"puts many":      func(r *ring.Ring[int]) { putsMany(r) },
		"takes and puts": func(r *ring.Ring[int]) { r.Take(); r.Put(9) },
		"all anew":       func(r *ring.Ring[int]) { takesAll(r); putsMany(r) },
		"closes":         func(r *ring.Ring[int]) { r.Close(); r.Take() },
	} {
		for _, capacity := range []int{4, 5, 100} {
			r := made(t, capacity)
			puts(t, r, 0, 0, 1, 2)
			takes(t, r, 0, 0)
			puts(t, r, 3, 4)
			var got []int
			for x := range r.All() {
				got = append(got, x)
				change(r)
			}
			if !slices.Equal(got, upTo(4)) {
				t.Errorf("yield %s, capacity %d: %v", name, capacity, got)
			}
		}
	}
}

// takesAll takes until there is none.
func takesAll(r *ring.Ring[int]) {
	for _, ok := r.Take(); ok; _, ok = r.Take() {
	}
}

// putsMany puts until there is no room.
func putsMany(r *ring.Ring[int]) {
	for r.Put(9) {
	}
}

// P10.5: one within another.
func TestAllWithinAll(t *testing.T) {
	r := made(t, 3)
	puts(t, r, 1, 2, 3)
	each, n := r.All(), 0
	for x := range each {
		for y := range each {
			n += 10*x + y
		}
	}
	if n != 198 {
		t.Errorf("the pairs come to %d", n)
	}
}

// P10.5, R1: no yield at all.
func TestAllOfNoYield(t *testing.T) {
	r := made(t, 3)
	r.All()(nil)
	puts(t, r, 1, 2)
	r.All()(nil)
	has(t, r, 1, 1, 2)
	new(ring.Ring[int]).All()(nil)
	(*ring.Ring[int])(nil).All()(nil)
}

// R3: a ring that is not there, as nil and as a zero struct.
func TestNoRing(t *testing.T) {
	for _, r := range []*ring.Ring[int]{nil, {}, new(ring.Ring[int])} {
		for range 2 {
			hasNone(t, r, 0)
			noPut(t, r)
			overIs(t, r, false)
			if r.All() == nil {
				t.Error("All: no function")
			}
			r.Close()
		}
	}
}

// R5: two rings share nothing.
func TestRingsShareNothing(t *testing.T) {
	a, b := made(t, 4), made(t, 4)
	puts(t, a, 1, 2)
	has(t, b, 4)
	puts(t, b, 5)
	takes(t, a, 1)
	a.Close()
	has(t, a, 0, 2)
	has(t, b, 3, 5)
	puts(t, b, 6)
	takes(t, a, 2)
	overIs(t, a, true)
	overIs(t, b, false)
	has(t, b, 2, 5, 6)
	hasNone(t, made(t, 4), 4)
}

// LANGUAGE.md, 8: what was taken is not kept.
func TestTakenIsNotKept(t *testing.T) {
	r := madeOf[*[100]int](t, 4)
	var seen []weak.Pointer[[100]int]
	for range 6 {
		x := new([100]int)
		seen = append(seen, weak.Make(x))
		r.Put(x)
		r.Take()
	}
	runtime.GC()
	for i, p := range seen {
		if p.Value() != nil {
			t.Errorf("the thing %d is kept", i)
		}
	}
	runtime.KeepAlive(r)
}
