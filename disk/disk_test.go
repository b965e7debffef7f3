package disk_test

import (
	"bytes"
	"math"
	"testing"

	"towpath/api"
	"towpath/disk"
)

// made: a new disk of this capacity.
func made(t *testing.T, capacity int) *disk.Disk {
	t.Helper()
	d, e := disk.New(capacity)
	if d == nil || e != api.OK {
		t.Fatalf("New(%d) = %v, %v", capacity, d, e)
	}
	return d
}

// is: this call answers just that.
func is(t *testing.T, call string, got, want api.Errno) {
	t.Helper()
	if got != want {
		t.Errorf("%s: %v, want %v", call, got, want)
	}
}

// holds: the two slots have these bytes, and so many raw writes were done.
func holds(t *testing.T, d *disk.Disk, zero, one string, writes int) {
	t.Helper()
	for slot, want := range []string{zero, one} {
		if got, e := d.Read(slot); e != api.OK || string(got) != want {
			t.Errorf("Read(%d) = %q, %v, want %q", slot, got, e, want)
		}
	}
	if got := d.Writes(); got != writes {
		t.Errorf("Writes = %d, want %d", got, writes)
	}
}

// deadIs: the disk is dead, or is not.
func deadIs(t *testing.T, d *disk.Disk, want bool) {
	t.Helper()
	if got := d.Dead(); got != want {
		t.Errorf("Dead = %v, want %v", got, want)
	}
}

// full: n bytes, no two beside one another alike.
func full(n int) []byte {
	b := make([]byte, n)
	for i := range b {
		b[i] = byte(i%251 + 1)
	}
	return b
}

// P4.1, P4.5
func TestNewCapacities(t *testing.T) {
	for _, capacity := range []int{-1, -2, math.MinInt, api.MaxDisk + 1, math.MaxInt} {
		if d, e := disk.New(capacity); d != nil || e != api.ErrArg {
			t.Errorf("New(%d) = %v, %v, want none and ErrArg", capacity, d, e)
		}
	}
	for _, capacity := range []int{0, 1, 4, api.Block, api.MaxDisk - 1, api.MaxDisk} {
		d := made(t, capacity)
		if got := d.Capacity(); got != capacity {
			t.Errorf("Capacity = %d, want %d", got, capacity)
		}
		holds(t, d, "", "", 0)
		deadIs(t, d, false)
	}
}

// P4.1
func TestNewIsNotCut(t *testing.T) {
	d := made(t, 4)
	for range 1000 {
		is(t, "Write", d.Write(0, 0, []byte("a")), api.OK)
		is(t, "Clear", d.Clear(1), api.OK)
	}
	holds(t, d, "a", "", 2000)
	deadIs(t, d, false)
}

// P4.1 (R5)
func TestDisksShareNothing(t *testing.T) {
	a, b := made(t, 4), made(t, 4)
	is(t, "Write", a.Write(0, 0, []byte("ab")), api.OK)
	is(t, "Cut", a.Cut(0), api.OK)
	is(t, "Write", a.Write(1, 0, []byte("c")), api.ErrCut)
	holds(t, b, "", "", 0)
	deadIs(t, b, false)
	is(t, "Write", b.Write(0, 0, []byte("xyz")), api.OK)
	holds(t, a, "ab", "", 1)
	holds(t, b, "xyz", "", 1)
	holds(t, made(t, 4), "", "", 0)
}

// P4.1 to P4.5: the chapter's examples.
func TestExamples(t *testing.T) {
	d := made(t, 4)
	is(t, "Write(0, 0, ab)", d.Write(0, 0, []byte("ab")), api.OK)
	is(t, "Write(0, 1, xyz)", d.Write(0, 1, []byte("xyz")), api.OK)
	holds(t, d, "axyz", "", 2)

	is(t, "Write(0, 5, none)", d.Write(0, 5, nil), api.ErrOrder)
	is(t, "Write(0, 4, z)", d.Write(0, 4, []byte("z")), api.ErrSpace)
	is(t, "Write(1, 1, a)", d.Write(1, 1, []byte("a")), api.ErrOrder)
	is(t, "Write(2, 0, a)", d.Write(2, 0, []byte("a")), api.ErrArg)
	is(t, "Write(0, 0, 65 bytes)", d.Write(0, 0, make([]byte, 65)), api.ErrArg)

	is(t, "Cut(1)", d.Cut(1), api.OK)
	is(t, "Clear(1)", d.Clear(1), api.OK)
	deadIs(t, d, false)
	is(t, "Write(0, 0, q)", d.Write(0, 0, []byte("q")), api.ErrCut)
	deadIs(t, d, true)
	holds(t, d, "axyz", "", 3)
	is(t, "Cut(5)", d.Cut(5), api.ErrCut)
	is(t, "Write(0, 9, q)", d.Write(0, 9, []byte("q")), api.ErrOrder)

	is(t, "Mend", d.Mend(), api.OK)
	is(t, "Write(0, 0, q)", d.Write(0, 0, []byte("q")), api.OK)
	holds(t, d, "qxyz", "", 4)
}

// P4.2, P4.3
func TestSlots(t *testing.T) {
	for _, slot := range []int{-1, 2, 3, math.MinInt, math.MaxInt} {
		d := made(t, 4)
		is(t, "Write", d.Write(0, 0, []byte("ab")), api.OK)
		is(t, "Write", d.Write(1, 0, []byte("cd")), api.OK)
		is(t, "Write", d.Write(slot, 0, []byte("x")), api.ErrArg)
		is(t, "Clear", d.Clear(slot), api.ErrArg)
		if b, e := d.Read(slot); b != nil || e != api.ErrArg {
			t.Errorf("Read(%d) = %q, %v, want none and ErrArg", slot, b, e)
		}
		holds(t, d, "ab", "cd", 2)
		deadIs(t, d, false)
	}
	for slot := range 2 {
		d := made(t, 4)
		is(t, "Write", d.Write(0, 0, []byte("ab")), api.OK)
		is(t, "Write", d.Write(1, 0, []byte("cd")), api.OK)
		is(t, "Write", d.Write(slot, 1, []byte("xyz")), api.OK)
		holds(t, d, []string{"axyz", "ab"}[slot], []string{"cd", "cxyz"}[slot], 3)
		is(t, "Clear", d.Clear(slot), api.OK)
		holds(t, d, []string{"", "ab"}[slot], []string{"cd", ""}[slot], 4)
	}
}

// P4.2: where a write may begin and end, on a disk of 8 whose slot 0 has abcd and whose slot 1 has other.
func TestWritePlaces(t *testing.T) {
	for _, c := range []struct {
		at    int
		b     string
		code  api.Errno
		after string
	}{
		{0, "x", api.OK, "xbcd"},
		{0, "wxyz", api.OK, "wxyz"},
		{0, "vwxyz", api.OK, "vwxyz"},
		{1, "xy", api.OK, "axyd"},
		{3, "x", api.OK, "abcx"},
		{3, "xy", api.OK, "abcxy"},
		{4, "x", api.OK, "abcdx"},
		{4, "wxyz", api.OK, "abcdwxyz"},
		{0, "stuvwxyz", api.OK, "stuvwxyz"},
		{1, "tuvwxyz", api.OK, "atuvwxyz"},
		{0, "", api.OK, "abcd"},
		{2, "", api.OK, "abcd"},
		{4, "", api.OK, "abcd"},
		{5, "", api.ErrOrder, "abcd"},
		{5, "x", api.ErrOrder, "abcd"},
		{8, "", api.ErrOrder, "abcd"},
		{math.MaxInt, "x", api.ErrOrder, "abcd"},
		{4, "vwxyz", api.ErrSpace, "abcd"},
		{0, "rstuvwxyz", api.ErrSpace, "abcd"},
		{-1, "", api.ErrArg, "abcd"},
		{-1, "x", api.ErrArg, "abcd"},
		{math.MinInt, "x", api.ErrArg, "abcd"},
	} {
		d := made(t, 8)
		is(t, "Write", d.Write(0, 0, []byte("abcd")), api.OK)
		is(t, "Write", d.Write(1, 0, []byte("other")), api.OK)
		if got := d.Write(0, c.at, []byte(c.b)); got != c.code {
			t.Errorf("Write(0, %d, %q): %v, want %v", c.at, c.b, got, c.code)
		}
		writes := 2
		if c.code == api.OK {
			writes = 3
		}
		holds(t, d, c.after, "other", writes)
		deadIs(t, d, false)
	}
}

// P4.2: a raw write of no bytes is one all the same, and the slot of a disk of 0 holds none.
func TestWriteNoBytes(t *testing.T) {
	for _, none := range [][]byte{nil, {}, make([]byte, 0, 100)} {
		d := made(t, 0)
		is(t, "Write", d.Write(0, 0, none), api.OK)
		is(t, "Write", d.Write(1, 0, none), api.OK)
		holds(t, d, "", "", 2)
		is(t, "Write", d.Write(0, 0, []byte("a")), api.ErrSpace)
		is(t, "Write", d.Write(0, 1, none), api.ErrOrder)
		is(t, "Clear", d.Clear(0), api.OK)
		holds(t, d, "", "", 3)
		is(t, "Cut", d.Cut(1), api.OK)
		is(t, "Write", d.Write(0, 0, none), api.OK)
		is(t, "Write", d.Write(0, 0, none), api.ErrCut)
		deadIs(t, d, true)
		holds(t, d, "", "", 4)
	}
}

// P4.2
func TestWriteBlock(t *testing.T) {
	d := made(t, 1000)
	b := full(api.Block + 1)
	is(t, "a block", d.Write(0, 0, b[:api.Block]), api.OK)
	is(t, "a block behind it", d.Write(0, api.Block, b[1:]), api.OK)
	want := string(b[:api.Block]) + string(b[1:])
	holds(t, d, want, "", 2)
	is(t, "one byte more", d.Write(0, 0, b), api.ErrArg)
	is(t, "many bytes more", d.Write(0, 0, make([]byte, 1000)), api.ErrArg)
	holds(t, d, want, "", 2)
	deadIs(t, d, false)
}

// P4.2: a slot can be filled up to the greatest capacity, and no further.
func TestWriteGreatestDisk(t *testing.T) {
	d := made(t, api.MaxDisk)
	b := full(api.Block)
	for at := 0; at < api.MaxDisk; at += api.Block {
		if e := d.Write(1, at, b); e != api.OK {
			t.Fatalf("Write(1, %d): %v", at, e)
		}
	}
	is(t, "one byte above the capacity", d.Write(1, api.MaxDisk, b[:1]), api.ErrSpace)
	is(t, "a block above the capacity by one", d.Write(1, api.MaxDisk-api.Block+1, b), api.ErrSpace)
	is(t, "no bytes at the capacity", d.Write(1, api.MaxDisk, nil), api.OK)
	is(t, "one above the slot's length", d.Write(1, api.MaxDisk+1, nil), api.ErrOrder)
	got, e := d.Read(1)
	if e != api.OK || !bytes.Equal(got, bytes.Repeat(b, api.MaxDisk/api.Block)) {
		t.Errorf("Read(1): %d bytes, %v", len(got), e)
	}
}

// P4.2: of two refusals of a write the first one named is answered. The disk has 4 bytes a slot and ab in slot 0; a cut one lets none be done, a dead one has refused one.
func TestWriteRefusalsInOrder(t *testing.T) {
	long := make([]byte, api.Block+1)
	for _, c := range []struct {
		what     string
		slot, at int
		b        []byte
		code     api.Errno
		kills    bool // a disk whose cut lets none be done
	}{
		{"slot and at", 2, -1, nil, api.ErrArg, false},
		{"slot and block", -1, 0, long, api.ErrArg, false},
		{"slot and order", 2, 9, nil, api.ErrArg, false},
		{"slot and space", 2, 0, []byte("vwxyz"), api.ErrArg, false},
		{"slot and cut", 2, 0, []byte("x"), api.ErrArg, false},
		{"at and block", 0, -1, long, api.ErrArg, false},
		{"at and space", 0, -1, make([]byte, api.Block), api.ErrArg, false},
		{"at and cut", 0, -1, []byte("x"), api.ErrArg, false},
		{"block and order", 0, 3, long, api.ErrArg, false},
		{"block and space", 0, 0, long, api.ErrArg, false},
		{"order and space", 0, 3, []byte("xy"), api.ErrOrder, false},
		{"order and cut", 0, 3, []byte("x"), api.ErrOrder, false},
		{"space and cut", 0, 2, []byte("xyz"), api.ErrSpace, false},
		{"cut alone", 0, 2, []byte("xy"), api.ErrCut, true},
		{"cut alone, no bytes", 0, 2, nil, api.ErrCut, true},
	} {
		whole, cut, dead := made(t, 4), made(t, 4), made(t, 4)
		for _, d := range []*disk.Disk{whole, cut, dead} {
			is(t, "Write", d.Write(0, 0, []byte("ab")), api.OK)
		}
		is(t, "Cut", cut.Cut(0), api.OK)
		is(t, "Cut", dead.Cut(0), api.OK)
		is(t, "Clear", dead.Clear(0), api.ErrCut)
		if !c.kills {
			is(t, c.what+", whole", whole.Write(c.slot, c.at, c.b), c.code)
		}
		is(t, c.what+", cut", cut.Write(c.slot, c.at, c.b), c.code)
		is(t, c.what+", dead", dead.Write(c.slot, c.at, c.b), c.code)
		for _, d := range []*disk.Disk{whole, cut, dead} {
			holds(t, d, "ab", "", 1)
		}
		deadIs(t, whole, false)
		deadIs(t, cut, c.kills)
		deadIs(t, dead, true)
	}
}

// P4.2
func TestClearRefusalsInOrder(t *testing.T) {
	for _, slot := range []int{-1, 2} {
		d := made(t, 4)
		is(t, "Write", d.Write(0, 0, []byte("ab")), api.OK)
		is(t, "Cut", d.Cut(0), api.OK)
		is(t, "Clear of no slot, cut", d.Clear(slot), api.ErrArg)
		deadIs(t, d, false)
		is(t, "Clear, cut", d.Clear(0), api.ErrCut)
		deadIs(t, d, true)
		is(t, "Clear of no slot, dead", d.Clear(slot), api.ErrArg)
		is(t, "Clear, dead", d.Clear(0), api.ErrCut)
		is(t, "Clear of an empty slot, dead", d.Clear(1), api.ErrCut)
		holds(t, d, "ab", "", 1)
	}
}

// P4.2: what was in a slot that was cleared does not come back.
func TestClearThenWrite(t *testing.T) {
	d := made(t, 8)
	is(t, "Write", d.Write(0, 0, []byte("abcdefgh")), api.OK)
	is(t, "Write", d.Write(1, 0, []byte("other")), api.OK)
	is(t, "Clear", d.Clear(0), api.OK)
	holds(t, d, "", "other", 3)
	is(t, "Write behind the slot's end", d.Write(0, 1, []byte("x")), api.ErrOrder)
	is(t, "Write", d.Write(0, 0, []byte("x")), api.OK)
	holds(t, d, "x", "other", 4)
	is(t, "Write", d.Write(0, 1, []byte("yz")), api.OK)
	holds(t, d, "xyz", "other", 5)
	is(t, "Clear", d.Clear(0), api.OK)
	is(t, "Clear of an empty slot", d.Clear(0), api.OK)
	holds(t, d, "", "other", 7)
}

// P4.3
func TestReadDead(t *testing.T) {
	d := made(t, 8)
	is(t, "Write", d.Write(0, 0, []byte("ab")), api.OK)
	is(t, "Write", d.Write(1, 0, []byte("cde")), api.OK)
	is(t, "Cut", d.Cut(0), api.OK)
	holds(t, d, "ab", "cde", 2)
	is(t, "Write", d.Write(1, 0, []byte("x")), api.ErrCut)
	deadIs(t, d, true)
	holds(t, d, "ab", "cde", 2)
	holds(t, d, "ab", "cde", 2)
	if b, e := d.Read(2); b != nil || e != api.ErrArg {
		t.Errorf("Read(2) of a dead disk = %q, %v, want none and ErrArg", b, e)
	}
	if b, e := d.Read(-1); b != nil || e != api.ErrArg {
		t.Errorf("Read(-1) of a dead disk = %q, %v, want none and ErrArg", b, e)
	}
	deadIs(t, d, true)
}

// P4.2 (R4)
func TestWriteKeepsTheContentAlone(t *testing.T) {
	for _, at := range []int{0, 1, 3} {
		d := made(t, 20)
		is(t, "Write", d.Write(0, 0, []byte("abc")), api.OK)
		room := []byte("uvwxyz")
		b := room[1:3] // with spare room behind it
		is(t, "Write", d.Write(0, at, b), api.OK)
		is(t, "Write", d.Write(1, 0, b), api.OK)
		want, _ := d.Read(0)
		if string(room) != "uvwxyz" {
			t.Errorf("what was handed in is %q now", room)
		}
		clear(room)
		holds(t, d, string(want), "vw", 3)
		is(t, "Write", d.Write(1, 2, []byte("pqr")), api.OK)
		is(t, "Write", d.Write(0, len(want), []byte("pqr")), api.OK)
		if !bytes.Equal(room, make([]byte, 6)) {
			t.Errorf("a later write shows in what was handed in: %q", room)
		}
		holds(t, d, string(want)+"pqr", "vwpqr", 5)
	}
}

// P4.3 (R4)
func TestReadAnswersNewMemory(t *testing.T) {
	d := made(t, 100)
	is(t, "Write", d.Write(0, 0, []byte("abcdefg")), api.OK)
	is(t, "Write", d.Write(1, 0, []byte("hij")), api.OK)
	first, _ := d.Read(0)
	second, _ := d.Read(0)
	other, _ := d.Read(1)
	for _, b := range [][]byte{first, other} {
		clear(b[:cap(b)])
	}
	if string(second) != "abcdefg" {
		t.Errorf("one answer shows in another: %q", second)
	}
	holds(t, d, "abcdefg", "hij", 2)
	is(t, "Write", d.Write(0, 0, []byte("xy")), api.OK)
	is(t, "Write", d.Write(0, 7, []byte("z")), api.OK)
	if string(second) != "abcdefg" || !bytes.Equal(first, make([]byte, 7)) {
		t.Errorf("a later write shows in an answer: %q, %q", first, second)
	}
	clear(second[:cap(second)])
	holds(t, d, "xycdefgz", "hij", 4)
	is(t, "Clear", d.Clear(0), api.OK)
	is(t, "Write", d.Write(0, 0, second[:2]), api.OK)
	holds(t, d, "\x00\x00", "hij", 6)
}

// P4.4
func TestCutLetsSoManyBeDone(t *testing.T) {
	for _, n := range []int{0, 1, 2, 7, 50} {
		d := made(t, 4)
		is(t, "Write", d.Write(0, 0, []byte("a")), api.OK)
		is(t, "Cut", d.Cut(n), api.OK)
		for i := range n {
			if i%2 == 0 {
				is(t, "Write", d.Write(1, 0, []byte("b")), api.OK)
			} else {
				is(t, "Clear", d.Clear(1), api.OK)
			}
			deadIs(t, d, false)
		}
		one := []string{"", "b"}[n%2]
		holds(t, d, "a", one, n+1)
		deadIs(t, d, false)
		is(t, "Write above the cut", d.Write(0, 0, []byte("x")), api.ErrCut)
		deadIs(t, d, true)
		for range 3 {
			is(t, "Write, dead", d.Write(0, 1, []byte("x")), api.ErrCut)
			is(t, "Clear, dead", d.Clear(0), api.ErrCut)
		}
		holds(t, d, "a", one, n+1)
	}
}

// P4.4: the greatest number lets more be done than can be asked for.
func TestCutGreatest(t *testing.T) {
	d := made(t, 4)
	is(t, "Cut", d.Cut(math.MaxInt), api.OK)
	for range 100 {
		is(t, "Write", d.Write(0, 0, []byte("a")), api.OK)
	}
	deadIs(t, d, false)
	holds(t, d, "a", "", 100)
}

// P4.4
func TestCutBelowNought(t *testing.T) {
	for _, n := range []int{-1, -2, -100, math.MinInt} {
		d := made(t, 4)
		is(t, "Cut", d.Cut(2), api.OK)
		is(t, "Write", d.Write(0, 0, []byte("a")), api.OK)
		is(t, "Write", d.Write(0, 0, []byte("a")), api.OK)
		is(t, "Cut", d.Cut(n), api.OK)
		for range 300 {
			is(t, "Clear", d.Clear(1), api.OK)
		}
		deadIs(t, d, false)
		holds(t, d, "a", "", 302)
		is(t, "Cut", d.Cut(0), api.OK)
		is(t, "Clear", d.Clear(1), api.ErrCut)
		deadIs(t, d, true)
	}
}

// P4.4: the later cut holds, be it longer or shorter than what the first one had left.
func TestSecondCut(t *testing.T) {
	for _, first := range []int{-1, 1, 2, 5} {
		for _, second := range []int{0, 1, 4, 9} {
			d := made(t, 4)
			is(t, "Cut", d.Cut(first), api.OK)
			is(t, "Write", d.Write(0, 0, []byte("a")), api.OK)
			is(t, "Cut", d.Cut(second), api.OK)
			deadIs(t, d, false)
			for range second {
				is(t, "Write", d.Write(0, 0, []byte("b")), api.OK)
			}
			is(t, "Write above the second cut", d.Write(0, 0, []byte("c")), api.ErrCut)
			deadIs(t, d, true)
			if got := d.Writes(); got != second+1 {
				t.Errorf("Cut(%d), one, Cut(%d): Writes = %d", first, second, got)
			}
		}
	}
}

// P4.4: a cut that came to its end without a write refused is no dead disk: it can be cut anew.
func TestCutAtItsEnd(t *testing.T) {
	d := made(t, 4)
	is(t, "Cut", d.Cut(0), api.OK)
	deadIs(t, d, false)
	is(t, "Cut", d.Cut(1), api.OK)
	is(t, "Write", d.Write(0, 0, []byte("a")), api.OK)
	is(t, "Cut", d.Cut(1), api.OK)
	is(t, "Write", d.Write(0, 0, []byte("b")), api.OK)
	deadIs(t, d, false)
	holds(t, d, "b", "", 2)
}

// P4.4
func TestCutOfADeadDisk(t *testing.T) {
	for _, n := range []int{-1, 0, 1, 5, math.MinInt, math.MaxInt} {
		d := made(t, 4)
		is(t, "Cut", d.Cut(0), api.OK)
		is(t, "Write", d.Write(0, 0, []byte("a")), api.ErrCut)
		is(t, "Cut of a dead disk", d.Cut(n), api.ErrCut)
		deadIs(t, d, true)
		is(t, "Write", d.Write(0, 0, []byte("a")), api.ErrCut)
		is(t, "Mend", d.Mend(), api.OK)
		for range 8 {
			is(t, "Write, mended", d.Write(0, 0, []byte("a")), api.OK)
		}
		holds(t, d, "a", "", 8)
	}
}

// P4.4
func TestMend(t *testing.T) {
	for _, c := range []struct {
		what  string
		ahead func(d *disk.Disk)
	}{
		{"dead", func(d *disk.Disk) { d.Cut(0); d.Write(0, 0, []byte("x")) }},
		{"dead by Clear", func(d *disk.Disk) { d.Cut(0); d.Clear(0) }},
		{"cut, none left", func(d *disk.Disk) { d.Cut(0) }},
		{"cut, some left", func(d *disk.Disk) { d.Cut(3) }},
		{"neither", func(*disk.Disk) {}},
		{"mended", func(d *disk.Disk) { d.Cut(0); d.Clear(0); d.Mend() }},
	} {
		d := made(t, 8)
		is(t, "Write", d.Write(0, 0, []byte("ab")), api.OK)
		is(t, "Write", d.Write(1, 0, []byte("cde")), api.OK)
		c.ahead(d)
		is(t, c.what+": Mend", d.Mend(), api.OK)
		deadIs(t, d, false)
		holds(t, d, "ab", "cde", 2)
		if got := d.Capacity(); got != 8 {
			t.Errorf("%s: Capacity = %d behind Mend", c.what, got)
		}
		for range 100 {
			is(t, c.what+": Write", d.Write(0, 2, []byte("f")), api.OK)
		}
		holds(t, d, "abf", "cde", 102)
		is(t, c.what+": Cut", d.Cut(1), api.OK)
		is(t, c.what+": Clear", d.Clear(1), api.OK)
		is(t, c.what+": Clear above the cut", d.Clear(0), api.ErrCut)
		deadIs(t, d, true)
		holds(t, d, "abf", "", 103)
	}
}

// P4.2 to P4.5 (R3)
func TestNoDisk(t *testing.T) {
	for _, d := range []*disk.Disk{nil, {}} {
		for range 2 { // the second time, behind Cut and Mend
			for _, slot := range []int{-1, 0, 1, 2} {
				is(t, "Write", d.Write(slot, 0, []byte("a")), api.ErrNil)
				is(t, "Write, no bytes", d.Write(slot, 0, nil), api.ErrNil)
				is(t, "Write, wrong place", d.Write(slot, -1, nil), api.ErrNil)
				is(t, "Write, behind the end", d.Write(slot, 1, nil), api.ErrNil)
				is(t, "Write, too long", d.Write(slot, 0, make([]byte, api.Block+1)), api.ErrNil)
				is(t, "Clear", d.Clear(slot), api.ErrNil)
				if b, e := d.Read(slot); b != nil || e != api.ErrNil {
					t.Errorf("Read(%d) = %q, %v, want none and ErrNil", slot, b, e)
				}
			}
			deadIs(t, d, false)
			if d.Capacity() != 0 || d.Writes() != 0 {
				t.Errorf("Capacity %d, Writes %d, want 0, 0", d.Capacity(), d.Writes())
			}
			for _, n := range []int{-1, 0, 1} {
				is(t, "Cut", d.Cut(n), api.ErrNil)
			}
			is(t, "Mend", d.Mend(), api.ErrNil)
		}
	}
}
