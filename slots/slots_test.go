package slots_test

import (
	"bytes"
	"fmt"
	"math"
	"slices"
	"strings"
	"testing"

	"towpath/api"
	"towpath/disk"
	"towpath/slots"
)

// most is the greatest generation, MostGeneration.
const most = 4611686018427387904

// set and drop: a version with a value, and one by which the key goes.
func set(number int, val string) api.Version { return api.Version{Number: number, Val: val} }
func drop(number int) api.Version            { return api.Version{Number: number, Drop: true} }

// held: a key with these versions.
func held(key string, l ...api.Version) api.Held { return api.Held{Key: key, Versions: l} }

// at: what a checkpoint says that has a mark and nothing else.
func at(mark int) api.Saved { return api.Saved{Mark: mark} }

// rich: what a checkpoint says that has some of everything.
func rich() api.Saved {
	return api.Saved{Mark: 3, Beyond: []int{5, 7}, Held: []api.Held{held("a", set(2, "x"), drop(5)), held("b", set(5, ""), set(7, "y"))}}
}

// ofSize: what a checkpoint says that has so many bytes, head and all; from 29 on.
func ofSize(t testing.TB, size int) api.Saved {
	t.Helper()
	s := at(1)
	for n := 0; size-512*n > 1000; n++ {
		s.Held = append(s.Held, held(fmt.Sprintf("%06d", n), set(1, strings.Repeat("v", 500))))
	}
	s.Held = append(s.Held, held("k", set(1, "")))
	last, left := len(s.Held)-1, size-len(mustSay(s))
	// A value of 128 bytes and more has one byte more of length.
	for _, key := range []string{"k", "kk"} {
		for val := max(left-2, 0); val <= left; val++ {
			s.Held[last] = held(key, set(1, strings.Repeat("v", val)))
			if len(mustSay(s)) == size {
				return s
			}
		}
	}
	t.Fatalf("none of %d bytes", size)
	return s
}

// mustSay: a checkpoint's bytes with the generation 1.
func mustSay(s api.Saved) []byte { return bytesOf(1, s) }

// made: a disk of this capacity.
func made(t testing.TB, capacity int) *disk.Disk {
	t.Helper()
	d, e := disk.New(capacity)
	if e != api.OK {
		t.Fatalf("disk.New(%d) = %v", capacity, e)
	}
	return d
}

// fill makes a slot have these bytes, by no saver.
func fill(t testing.TB, d *disk.Disk, slot int, b []byte) {
	t.Helper()
	is(t, "Clear", d.Clear(slot), api.OK)
	for at := 0; at < len(b); at += api.Block {
		is(t, "Write", d.Write(slot, at, b[at:min(at+api.Block, len(b))]), api.OK)
	}
}

// with: a disk whose slots have these bytes.
func with(t testing.TB, zero, one []byte) *disk.Disk {
	t.Helper()
	d := made(t, max(len(zero), len(one), 200))
	fill(t, d, 0, zero)
	fill(t, d, 1, one)
	return d
}

// is: was this answered?
func is(t testing.TB, call string, got, want api.Errno) {
	t.Helper()
	if got != want {
		t.Fatalf("%s = %v, want %v", call, got, want)
	}
}

// same: do both say the same? None and nil are the same.
func same(a, b api.Saved) bool {
	return a.Mark == b.Mark && slices.Equal(a.Beyond, b.Beyond) && slices.EqualFunc(a.Held, b.Held, func(x, y api.Held) bool {
		return x.Key == y.Key && slices.Equal(x.Versions, y.Versions)
	})
}

// show tells what a checkpoint says; of what is long the beginning.
func show(s api.Saved) string { return fmt.Sprintf("%.300s", fmt.Sprint(s)) }

// newestIs: does Newest answer this?
func newestIs(t testing.TB, d *disk.Disk, want api.Saved, generation, slot int) {
	t.Helper()
	s, g, k, ok, e := slots.Newest(d)
	if !same(s, want) || g != generation || k != slot || !ok || e != api.OK {
		t.Fatalf("Newest = %s, %d, %d, %v, %v, want %s, %d, %d", show(s), g, k, ok, e, show(want), generation, slot)
	}
}

// noNewest: does Newest answer this error, and nothing beside it?
func noNewest(t testing.TB, d *disk.Disk, want api.Errno) {
	t.Helper()
	s, g, k, ok, e := slots.Newest(d)
	if s.Mark != 0 || s.Beyond != nil || s.Held != nil || g != 0 || k != 0 || ok || e != want {
		t.Fatalf("Newest = %s, %d, %d, %v, %v, want %v", show(s), g, k, ok, e, want)
	}
}

// saver: one of what may be saved.
func saver(t testing.TB, d *disk.Disk, s api.Saved) *slots.Saver {
	t.Helper()
	x, e := slots.New(d, s)
	if e != api.OK || x == nil {
		t.Fatalf("New(%s) = %v, %v", show(s), x, e)
	}
	return x
}

// refused: does New answer this error, no saver, and is nothing written?
func refused(t testing.TB, d *disk.Disk, s api.Saved, want api.Errno) {
	t.Helper()
	writes := d.Writes()
	if x, e := slots.New(d, s); e != want || x != nil {
		t.Fatalf("New(%s) = %v, %v, want %v", show(s), x, e, want)
	}
	if d.Writes() != writes {
		t.Fatalf("New wrote")
	}
}

// leftIs: are so many raw writes left?
func leftIs(t testing.TB, x *slots.Saver, want int) {
	t.Helper()
	if n := x.Left(); n != want {
		t.Fatalf("Left = %d, want %d", n, want)
	}
}

// saved saves all of it.
func saved(t testing.TB, d *disk.Disk, s api.Saved) {
	t.Helper()
	for x := saver(t, d, s); x.Left() > 0; {
		is(t, "Step", x.Step(), api.OK)
	}
}

// slotIs: has the slot these bytes?
func slotIs(t testing.TB, d *disk.Disk, slot int, want []byte) {
	t.Helper()
	if b, e := d.Read(slot); e != api.OK || !bytes.Equal(b, want) {
		t.Fatalf("slot %d: %.300x, %v, want %.300x", slot, b, e, want)
	}
}

// P19.1 to P19.4: the chapter's rows.
func TestExamples(t *testing.T) {
	d := made(t, 200)
	noNewest(t, d, api.OK)
	s := saver(t, d, at(3))
	leftIs(t, s, 2)
	is(t, "Step", s.Step(), api.OK)
	leftIs(t, s, 1)
	is(t, "Step", s.Step(), api.OK)
	leftIs(t, s, 0)
	is(t, "Step", s.Step(), api.ErrIdle)
	slotIs(t, d, 0, []byte{0x54, 0x4f, 0x50, 0x57, 1, 0, 0, 0, 0, 0, 0, 0, 3, 0, 0, 0, 0x3a, 0x9c, 0xab, 0x66, 3, 0, 0})
	newestIs(t, d, at(3), 1, 0)
	x := saver(t, d, at(4))
	is(t, "Cut", d.Cut(1), api.OK)
	is(t, "Step", x.Step(), api.OK)
	is(t, "Step", x.Step(), api.ErrCut)
	is(t, "Mend", d.Mend(), api.OK)
	newestIs(t, d, at(3), 1, 0)
	is(t, "Step", x.Step(), api.OK)
	newestIs(t, d, at(4), 2, 1)
	refused(t, d, at(-1), api.ErrArg)
	refused(t, d, api.Saved{Mark: 1, Held: []api.Held{held("a", set(1, strings.Repeat("v", 200)))}}, api.ErrSpace)
	refused(t, nil, at(3), api.ErrNil)
	var none *slots.Saver
	is(t, "Step", none.Step(), api.ErrNil)
	leftIs(t, none, 0)
}

// P19.1: the words of the head, each at its edges; all else is as it must be.
func TestHeads(t *testing.T) {
	said := []byte{3, 0, 0}
	for _, c := range []struct {
		name       string
		b          []byte
		generation int
	}{
		{"the first", put(sign, 1, 3, said), 1},
		{"the second", put(sign, 2, 3, said), 2},
		{"of two bytes", put(sign, 256, 3, said), 256},
		{"of all bytes", put(sign, 0x0102030405060708, 3, said), 0x0102030405060708},
		{"one below the last", put(sign, most-1, 3, said), most - 1},
		{"the last", put(sign, most, 3, said), most},
		{"none", put(sign, 0, 3, said), 0},
		{"one above the last", put(sign, most+1, 3, said), 0},
		{"far above the last", put(sign, math.MaxInt64, 3, said), 0},
		{"below 0, as a number with a sign", put(sign, 1<<63, 3, said), 0},
		{"-1, as a number with a sign", put(sign, math.MaxUint64, 3, said), 0},
		{"no sign", put(0, 1, 3, said), 0},
		{"a sign and one", put(sign+1, 1, 3, said), 0},
		{"the sign with the highest byte first", put(0x544f5057, 1, 3, said), 0},
		{"a length of one less", put(sign, 1, 2, said), 0},
		{"a length of one more", put(sign, 1, 4, said), 0},
		{"a length of none", put(sign, 1, 0, said), 0},
		{"the length of all", put(sign, 1, 23, said), 0},
		{"a length with a high byte", put(sign, 1, 3+1<<24, said), 0},
		{"the greatest length", put(sign, 1, math.MaxUint32, said), 0},
		{"nothing behind it", put(sign, 1, 0, nil), 0},
	} {
		for slot := range 2 {
			d := made(t, 200)
			fill(t, d, slot, c.b)
			if c.generation == 0 {
				noNewest(t, d, api.OK)
				continue
			}
			newestIs(t, d, at(3), c.generation, slot)
		}
	}
}

// P19.1: cut anywhere, or longer, the bytes are no checkpoint's.
func TestOtherLengths(t *testing.T) {
	for _, s := range []api.Saved{at(3), rich(), ofSize(t, 130)} {
		b := bytesOf(7, s)
		for n := range b {
			noNewest(t, with(t, b[:n], nil), api.OK)
			noNewest(t, with(t, nil, b[:n]), api.OK)
		}
		for x := range 256 {
			noNewest(t, with(t, append(slices.Clone(b), byte(x)), nil), api.OK)
		}
		noNewest(t, with(t, append([]byte{0}, b...), b[1:]), api.OK)
		newestIs(t, with(t, nil, b), s, 7, 1)
	}
}

// P19.1: no bit of a checkpoint's bytes can be another.
func TestEachBit(t *testing.T) {
	for _, s := range []api.Saved{at(3), rich()} {
		b := bytesOf(5, s)
		for i := range b {
			for bit := range 8 {
				spoilt := slices.Clone(b)
				spoilt[i] ^= 1 << bit
				noNewest(t, with(t, spoilt, nil), api.OK)
				newestIs(t, with(t, spoilt, bytesOf(4, s)), s, 4, 1)
			}
		}
	}
}

// P19.1: the sum is of the generation and the length, and then of what is behind the head: of no less, no more, in no other order.
func TestSums(t *testing.T) {
	b := bytesOf(9, rich())
	for _, wrong := range [][]byte{b[20:], b[4:16], b[:16], b[4:], b, slices.Concat(b[20:], b[4:16]), slices.Concat(b[:16], b[20:]), slices.Concat(b[12:16], b[20:]), slices.Concat(b[4:12], b[20:]), nil} {
		noNewest(t, with(t, summed(b, castagnoli(wrong)), nil), api.OK)
	}
	right := castagnoli(slices.Concat(b[4:16], b[20:]))
	newestIs(t, with(t, summed(b, right), nil), rich(), 9, 0)
	noNewest(t, with(t, summed(b, ^right), nil), api.OK)
	noNewest(t, with(t, summed(b, right>>24|right<<24|right>>8&0xff00|right<<8&0xff0000), nil), api.OK)
}

// P19.1: a head that is as it must be, ahead of what Decode does not take.
func TestWhatDecodeRefuses(t *testing.T) {
	for _, said := range []string{
		"", "\x00", "\x03\x00", "\x00\x00\x00\x00", "\x03\x00\x00\x00", "\x00\x00\x01\x00\x00", "\x81\x80\x04\x00\x00", "\x80\x00\x00\x00",
		"\x00\x01\x01\x00", "\x03\x01\x04\x00", "\x00\x00\x01\x01a\x01\x01\x02", "\x03\x00\x01\x01a\x00", "\x03\x00\x01\x01a\x01\x02\x01", "\xff\xff\xff\xff",
	} {
		b := put(sign, 8, uint32(len(said)), []byte(said))
		noNewest(t, with(t, b, nil), api.OK)
		newestIs(t, with(t, b, bytesOf(3, at(3))), at(3), 3, 1)
		newestIs(t, with(t, bytesOf(3, at(3)), b), at(3), 3, 0)
	}
}

// P19.1: of two slots the one with the greater generation; of one generation slot 0's.
func TestTheNewestOfTwo(t *testing.T) {
	generations := []int{1, 2, 3, 255, 256, 257, 1 << 16, 1<<32 - 1, 1 << 32, 1<<32 + 1, 1 << 61, most - 1, most}
	zero, one := rich(), at(9)
	for _, g := range generations {
		for _, h := range generations {
			d := with(t, bytesOf(uint64(g), zero), bytesOf(uint64(h), one))
			if h > g {
				newestIs(t, d, one, h, 1)
			} else {
				newestIs(t, d, zero, g, 0)
			}
		}
	}
}

// P19.1: a dead disk is read, one that is cut is, and none is written to.
func TestNewestOfADeadDisk(t *testing.T) {
	d := made(t, 200)
	saved(t, d, rich())
	is(t, "Cut", d.Cut(0), api.OK)
	newestIs(t, d, rich(), 1, 0)
	if d.Dead() {
		t.Fatal("dead by a read")
	}
	is(t, "Clear", d.Clear(1), api.ErrCut)
	newestIs(t, d, rich(), 1, 0)
	if !d.Dead() || d.Writes() != 2 {
		t.Fatalf("Dead %v, Writes %d", d.Dead(), d.Writes())
	}
	empty := made(t, 0)
	is(t, "Cut", empty.Cut(0), api.OK)
	is(t, "Clear", empty.Clear(1), api.ErrCut)
	noNewest(t, empty, api.OK)
}

// P19.2: what may not be said is refused, whatever is wrong of it.
func TestNewOfWhatMayNotBe(t *testing.T) {
	d := made(t, 200)
	for _, s := range []api.Saved{
		at(-1), at(math.MinInt), at(api.MaxLog + 1), at(math.MaxInt),
		{Mark: 3, Beyond: []int{4}}, {Mark: 3, Beyond: []int{5, 5}}, {Mark: 3, Beyond: []int{api.MaxLog + 1}},
		{Mark: 3, Held: []api.Held{held("a")}}, {Mark: 3, Held: []api.Held{held("", set(1, "x"))}}, {Mark: 3, Held: []api.Held{held("a", drop(1))}},
		{Mark: 3, Held: []api.Held{held("b", set(1, "x")), held("a", set(1, "x"))}}, {Mark: 3, Held: []api.Held{held("a", set(4, "x"))}},
		{Mark: 3, Held: []api.Held{held("a", set(1, strings.Repeat("v", 1025)))}}, {Mark: 3, Held: []api.Held{held(strings.Repeat("k", 65), set(1, ""))}},
	} {
		refused(t, d, s, api.ErrArg)
	}
	refused(t, made(t, 0), at(-1), api.ErrArg)
}

// P19.2: the refusals in their order.
func TestNewRefusalsInOrder(t *testing.T) {
	bad, great := at(-1), ofSize(t, 24+200)
	last := with(t, bytesOf(most, at(3)), nil)
	refused(t, nil, bad, api.ErrNil)
	refused(t, &disk.Disk{}, bad, api.ErrNil)
	refused(t, nil, great, api.ErrNil)
	refused(t, &disk.Disk{}, at(1), api.ErrNil)
	refused(t, last, bad, api.ErrArg)
	refused(t, last, great, api.ErrLimit)
	refused(t, last, at(1), api.ErrLimit)
	refused(t, made(t, 223), great, api.ErrSpace)
	refused(t, made(t, 22), bad, api.ErrArg)
}

// P19.2: of the greatest generation none comes behind; it counts only if it is the newest one's.
func TestNewBehindTheLastGeneration(t *testing.T) {
	for slot := range 2 {
		d := made(t, 200)
		fill(t, d, slot, bytesOf(most, at(3)))
		refused(t, d, at(4), api.ErrLimit)
		fill(t, d, 1-slot, bytesOf(most-1, at(2)))
		refused(t, d, at(4), api.ErrLimit)
		newestIs(t, d, at(3), most, slot)
		// Once it is not whole, the one ahead of it counts, and it is written anew.
		fill(t, d, slot, bytesOf(most, at(3))[:22])
		saved(t, d, rich())
		newestIs(t, d, rich(), most, slot)
		refused(t, d, at(4), api.ErrLimit)
	}
	d := with(t, put(sign, most+1, 3, []byte{3, 0, 0}), nil)
	saved(t, d, at(4))
	newestIs(t, d, at(4), 1, 0)
}

// P19.2: all capacities about the size of a checkpoint.
func TestNewAndTheCapacity(t *testing.T) {
	for _, s := range []api.Saved{at(0), at(3), at(128), rich(), ofSize(t, 64), ofSize(t, 128), ofSize(t, 129)} {
		size := len(mustSay(s))
		for _, capacity := range []int{0, 1, 19, 20, 21, 22, size - 20, size - 2, size - 1} {
			if capacity < size {
				refused(t, made(t, capacity), s, api.ErrSpace)
			}
		}
		for _, capacity := range []int{size, size + 1, size + 63, size + 64, api.MaxDisk} {
			d := made(t, capacity)
			saved(t, d, s)
			newestIs(t, d, s, 1, 0)
			slotIs(t, d, 0, mustSay(s))
		}
	}
}

// P19.2: which slot and which generation, whatever is in the slots.
func TestNewTakesTheOtherSlot(t *testing.T) {
	for _, c := range []struct {
		zero, one        []byte
		slot, generation int
	}{
		{nil, nil, 0, 1},
		{[]byte("spoilt"), nil, 0, 1},
		{nil, []byte("spoilt"), 0, 1},
		{[]byte("spoilt"), []byte("spoilt"), 0, 1},
		{bytesOf(1, at(9)), nil, 1, 2},
		{bytesOf(1, at(9)), []byte("spoilt"), 1, 2},
		{nil, bytesOf(1, at(9)), 0, 2},
		{bytesOf(9, at(9))[:22], bytesOf(1, at(9)), 0, 2},
		{bytesOf(1, at(9)), bytesOf(9, at(9))[:22], 1, 2},
		{bytesOf(1, at(9)), bytesOf(2, at(8)), 0, 3},
		{bytesOf(2, at(9)), bytesOf(1, at(8)), 1, 3},
		{bytesOf(7, at(9)), bytesOf(7, at(8)), 1, 8},
		{bytesOf(255, at(9)), nil, 1, 256},
		{bytesOf(most-1, at(9)), bytesOf(most-2, at(8)), 1, most},
		{bytesOf(1, at(9)), bytesOf(1<<32-1, at(8)), 0, 1 << 32},
	} {
		d := with(t, c.zero, c.one)
		saved(t, d, rich())
		newestIs(t, d, rich(), c.generation, c.slot)
		slotIs(t, d, c.slot, bytesOf(uint64(c.generation), rich()))
		slotIs(t, d, 1-c.slot, [][]byte{c.zero, c.one}[1-c.slot])
	}
}

// P19.2: nothing is written yet, and no raw write is asked for: a disk that is cut, or dead, is as good as any.
func TestNewWritesNothing(t *testing.T) {
	d := made(t, 200)
	saved(t, d, at(1))
	saved(t, d, at(2))
	is(t, "Cut", d.Cut(0), api.OK)
	x := saver(t, d, at(3))
	if d.Dead() || d.Writes() != 4 {
		t.Fatalf("Dead %v, Writes %d", d.Dead(), d.Writes())
	}
	is(t, "Step", x.Step(), api.ErrCut)
	if !d.Dead() {
		t.Fatal("not dead")
	}
	y := saver(t, d, at(4))
	leftIs(t, y, 2)
	slotIs(t, d, 0, bytesOf(1, at(1)))
	slotIs(t, d, 1, bytesOf(2, at(2)))
	is(t, "Step", y.Step(), api.ErrCut)
	is(t, "Mend", d.Mend(), api.OK)
	is(t, "Step", y.Step(), api.OK)
	is(t, "Step", y.Step(), api.OK)
	newestIs(t, d, at(4), 3, 0)
}

// P19.3: the raw writes one by one, of checkpoints whose sizes are about some blocks.
func TestTheRawWrites(t *testing.T) {
	for _, size := range []int{29, 30, 63, 64, 65, 66, 127, 128, 129, 191, 192, 193, 1000, 1024, 4096, 4097} {
		d := made(t, size)
		s := ofSize(t, size)
		fill(t, d, 1, bytesOf(6, at(2)))
		fill(t, d, 0, bytes.Repeat([]byte("o"), size))
		all, writes := bytesOf(7, s), d.Writes()
		x := saver(t, d, s)
		count := 1 + (size+63)/64
		for done := range count {
			leftIs(t, x, count-done)
			is(t, "Step", x.Step(), api.OK)
			slotIs(t, d, 0, all[:min(64*done, size)])
			slotIs(t, d, 1, bytesOf(6, at(2)))
			if d.Writes() != writes+done+1 {
				t.Fatalf("%d raw writes for %d steps", d.Writes()-writes, done+1)
			}
			if done+1 < count {
				newestIs(t, d, at(2), 6, 1)
			}
		}
		newestIs(t, d, s, 7, 0)
		leftIs(t, x, 0)
		is(t, "Step", x.Step(), api.ErrIdle)
	}
}

// P19.3: a saver that is done asks nothing of the disk any more.
func TestIdle(t *testing.T) {
	d := made(t, 200)
	x := saver(t, d, at(3))
	is(t, "Step", x.Step(), api.OK)
	is(t, "Step", x.Step(), api.OK)
	is(t, "Cut", d.Cut(0), api.OK)
	for range 3 {
		is(t, "Step", x.Step(), api.ErrIdle)
		leftIs(t, x, 0)
	}
	if d.Dead() || d.Writes() != 2 {
		t.Fatalf("Dead %v, Writes %d", d.Dead(), d.Writes())
	}
	is(t, "Clear", d.Clear(1), api.ErrCut)
	is(t, "Step", x.Step(), api.ErrIdle)
	newestIs(t, d, at(3), 1, 0)
}

// P19.3: what the disk refuses is the answer, and is still the next; here it is refused since another one was at the slot.
func TestARefusedWriteIsStillTheNext(t *testing.T) {
	d := made(t, 400)
	s := ofSize(t, 150)
	x := saver(t, d, s)
	for range 2 {
		is(t, "Step", x.Step(), api.OK)
	}
	is(t, "Clear", d.Clear(0), api.OK)
	for range 3 {
		is(t, "Step", x.Step(), api.ErrOrder)
		leftIs(t, x, 2)
		slotIs(t, d, 0, nil)
	}
	is(t, "Cut", d.Cut(0), api.OK)
	is(t, "Step", x.Step(), api.ErrOrder) // ahead of ErrCut, so the disk is not dead
	if d.Dead() {
		t.Fatal("dead")
	}
	is(t, "Mend", d.Mend(), api.OK)
	is(t, "Write", d.Write(0, 0, mustSay(s)[:64]), api.OK)
	is(t, "Step", x.Step(), api.OK)
	is(t, "Step", x.Step(), api.OK)
	slotIs(t, d, 0, mustSay(s))
	newestIs(t, d, s, 1, 0)
}

// P19.3: each raw write has its place: what another one laid behind stays.
func TestWritesHaveTheirPlaces(t *testing.T) {
	d := made(t, 400)
	x := saver(t, d, at(3))
	is(t, "Step", x.Step(), api.OK)
	is(t, "Write", d.Write(0, 0, bytes.Repeat([]byte("o"), 30)), api.OK)
	is(t, "Step", x.Step(), api.OK)
	slotIs(t, d, 0, append(mustSay(at(3)), "ooooooo"...))
	noNewest(t, d, api.OK)
	y := saver(t, d, ofSize(t, 100))
	is(t, "Step", y.Step(), api.OK)
	is(t, "Step", y.Step(), api.OK)
	is(t, "Write", d.Write(0, 64, bytes.Repeat([]byte("o"), 64)), api.OK)
	is(t, "Step", y.Step(), api.OK)
	slotIs(t, d, 0, append(mustSay(ofSize(t, 100)), bytes.Repeat([]byte("o"), 28)...))
}

// P19.4: cut behind any number of raw writes the newest one is as it was; mended, the saver goes on, or another one begins anew.
func TestCuts(t *testing.T) {
	for _, first := range []int{0, 1, 2, 3} {
		for _, size := range []int{29, 64, 65, 300} {
			count := 1 + (size+63)/64
			for n := range count {
				for _, again := range []bool{false, true} {
					cutOnce(t, first, size, n, again)
				}
			}
		}
	}
}

// cutOnce: behind so many checkpoints one of this size is cut behind n raw writes.
func cutOnce(t *testing.T, first, size, n int, again bool) {
	t.Helper()
	d := made(t, 400)
	for mark := range first {
		saved(t, d, at(mark+1))
	}
	was := func() {
		t.Helper()
		if first == 0 {
			noNewest(t, d, api.OK)
			return
		}
		newestIs(t, d, at(first), first, 1-first%2)
	}
	x := saver(t, d, ofSize(t, size))
	is(t, "Cut", d.Cut(n), api.OK)
	for range n {
		is(t, "Step", x.Step(), api.OK)
		was()
	}
	left := x.Left()
	for range 2 {
		is(t, "Step", x.Step(), api.ErrCut)
		leftIs(t, x, left)
		was()
	}
	is(t, "Mend", d.Mend(), api.OK)
	was()
	if again {
		x = saver(t, d, ofSize(t, size))
	}
	for x.Left() > 0 {
		was()
		is(t, "Step", x.Step(), api.OK)
	}
	newestIs(t, d, ofSize(t, size), first+1, first%2)
}

// P19.4: one behind the other, each is the newest one, in the other slot, and the one ahead stays whole.
func TestOneBehindTheOther(t *testing.T) {
	d := made(t, 200)
	for n := 1; n <= 600; n++ {
		saved(t, d, at(n))
		newestIs(t, d, at(n), n, 1-n%2)
		slotIs(t, d, 1-n%2, bytesOf(uint64(n), at(n)))
		if n > 1 {
			slotIs(t, d, n%2, bytesOf(uint64(n-1), at(n-1)))
		}
	}
}

// P19.4: bytes count, not who wrote them: carried to another disk, or to the other slot, they are the same checkpoint.
func TestCarriedBytes(t *testing.T) {
	d := made(t, 200)
	saved(t, d, at(1))
	saved(t, d, rich())
	zero, _ := d.Read(0)
	one, _ := d.Read(1)
	newestIs(t, with(t, zero, one), rich(), 2, 1)
	newestIs(t, with(t, one, zero), rich(), 2, 0)
	newestIs(t, with(t, nil, zero), at(1), 1, 1)
	newestIs(t, with(t, one, one), rich(), 2, 0)
	// What a saver wrote is not taken when another one spoilt it.
	is(t, "Write", d.Write(1, 20, []byte{9}), api.OK)
	newestIs(t, d, at(1), 1, 0)
}

// P19.2, P19.3: two savers at one time have the same slot and the same generation, and each goes its own way.
func TestTwoSavers(t *testing.T) {
	d := made(t, 200)
	x, y := saver(t, d, at(3)), saver(t, d, rich())
	is(t, "x.Step", x.Step(), api.OK)
	is(t, "x.Step", x.Step(), api.OK)
	newestIs(t, d, at(3), 1, 0)
	leftIs(t, y, 2)
	is(t, "y.Step", y.Step(), api.OK)
	noNewest(t, d, api.OK)
	is(t, "y.Step", y.Step(), api.OK)
	newestIs(t, d, rich(), 1, 0)
	is(t, "x.Step", x.Step(), api.ErrIdle)
}

// R5: disks share nothing, nor do savers of different disks.
func TestTwoDisks(t *testing.T) {
	c, d := made(t, 200), made(t, 200)
	x, y := saver(t, c, at(3)), saver(t, d, at(4))
	is(t, "Cut", c.Cut(1), api.OK)
	for range 2 {
		x.Step()
		is(t, "y.Step", y.Step(), api.OK)
	}
	noNewest(t, c, api.OK)
	newestIs(t, d, at(4), 1, 0)
	leftIs(t, x, 1)
}

// R3: an object that no call made is as one that is not there.
func TestNoObject(t *testing.T) {
	noNewest(t, nil, api.ErrNil)
	noNewest(t, &disk.Disk{}, api.ErrNil)
	for _, x := range []*slots.Saver{nil, {}} {
		is(t, "Step", x.Step(), api.ErrNil)
		leftIs(t, x, 0)
		is(t, "Step", x.Step(), api.ErrNil)
	}
}

// spare: what rich says, and more in the spare room of each of its lists; and all of that room.
func spare() (api.Saved, func() api.Saved) {
	beyond := []int{5, 7, 77}
	a := []api.Version{set(2, "x"), drop(5), set(90, "spare")}
	b := []api.Version{set(5, ""), set(7, "y"), set(91, "spare")}
	l := []api.Held{held("a", a[:2]...), held("b", b[:2]...), held("c", set(92, "spare"))}
	return api.Saved{Mark: 3, Beyond: beyond[:2], Held: l[:2]}, func() api.Saved {
		return api.Saved{Mark: 3, Beyond: beyond, Held: []api.Held{held(l[0].Key, a...), held(l[1].Key, b...), l[2]}}
	}
}

// scribble writes over all memory of what a checkpoint says, its spare room too.
func scribble(s api.Saved) {
	beyond := s.Beyond[:cap(s.Beyond)]
	for i := range beyond {
		beyond[i] = -9
	}
	l := s.Held[:cap(s.Held)]
	for i := range l {
		versions := l[i].Versions[:cap(l[i].Versions)]
		for j := range versions {
			versions[j] = set(-9, "scribble")
		}
		l[i] = held("scribble")
	}
}

// R4: what is handed in is not changed, its spare room neither; it is kept by its content alone.
func TestWhatIsHandedIn(t *testing.T) {
	d := made(t, 200)
	s, room := spare()
	_, before := spare()
	x := saver(t, d, s)
	is(t, "Step", x.Step(), api.OK)
	if !same(room(), before()) || !same(s, rich()) {
		t.Fatalf("changed: %s", show(room()))
	}
	scribble(s)
	is(t, "Step", x.Step(), api.OK)
	newestIs(t, d, rich(), 1, 0)
	slotIs(t, d, 0, bytesOf(1, rich()))
}

// R4: what Newest answers is new memory.
func TestAnswersAreNewMemory(t *testing.T) {
	d := made(t, 200)
	saved(t, d, rich())
	a, _, _, _, _ := slots.Newest(d)
	b, _, _, _, _ := slots.Newest(d)
	scribble(a)
	if !same(b, rich()) {
		t.Fatalf("two answers share memory: %s", show(b))
	}
	newestIs(t, d, rich(), 1, 0)
	saved(t, d, b)
	is(t, "Clear", d.Clear(0), api.OK)
	newestIs(t, d, rich(), 2, 1)
	scribble(b)
	newestIs(t, d, rich(), 2, 1)
	c, _, _, _, _ := slots.Newest(d)
	is(t, "Clear", d.Clear(1), api.OK)
	if !same(c, rich()) {
		t.Fatalf("a later write shows in an answer: %s", show(c))
	}
}

// R4: nil and none are the same.
func TestNilAndNone(t *testing.T) {
	c, d := made(t, 200), made(t, 200)
	saved(t, c, at(7))
	saved(t, d, api.Saved{Mark: 7, Beyond: make([]int, 0, 4), Held: make([]api.Held, 0, 4)})
	b, _ := c.Read(0)
	slotIs(t, d, 0, b)
}

// R5: the same calls have the same answers.
func TestTheSameAgain(t *testing.T) {
	var first []byte
	for range 3 {
		d := made(t, 400)
		saved(t, d, rich())
		saved(t, d, ofSize(t, 300))
		zero, _ := d.Read(0)
		one, _ := d.Read(1)
		all := append(zero, one...)
		if first == nil {
			first = all
		}
		if !bytes.Equal(first, all) {
			t.Fatalf("%x, %x", first, all)
		}
	}
}

// P19.2, P19.3: a checkpoint that fills the greatest slot, and one that is a byte too long for it.
func TestTheGreatestSlot(t *testing.T) {
	s := ofSize(t, api.MaxDisk)
	d := made(t, api.MaxDisk)
	if n := len(mustSay(s)); n != api.MaxDisk {
		t.Fatalf("%d bytes", n)
	}
	x := saver(t, d, s)
	leftIs(t, x, 1+api.MaxDisk/api.Block)
	for n := x.Left(); n > 0; n-- {
		leftIs(t, x, n)
		is(t, "Step", x.Step(), api.OK)
	}
	newestIs(t, d, s, 1, 0)
	slotIs(t, d, 0, mustSay(s))
	refused(t, made(t, api.MaxDisk-1), s, api.ErrSpace)
	s.Held[0].Key += "k"
	refused(t, d, s, api.ErrSpace)
}

// P19.1, P19.2: no word of chapter 18 bounds how many keys may be saved, but Decode takes no more than MaxLog of them: such a slot is not whole, and the one ahead stays the newest.
func TestMoreKeysThanMaxLog(t *testing.T) {
	d := made(t, api.MaxDisk)
	saved(t, d, at(3))
	for _, more := range []int{0, 1} {
		s := at(1)
		for n := range api.MaxLog + more {
			s.Held = append(s.Held, held(fmt.Sprintf("%06d", n), set(1, "")))
		}
		saved(t, d, s)
		slotIs(t, d, 1-more, bytesOf(uint64(2+more), s))
		newestIs(t, d, api.Saved{Mark: 1, Held: s.Held[:api.MaxLog]}, 2, 1)
	}
}
