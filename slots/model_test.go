package slots_test

import (
	"encoding/binary"
	"hash/crc32"
	"math/rand"
	"slices"
	"strconv"
	"strings"
	"testing"

	"towpath/api"
	"towpath/disk"
	"towpath/dump"
	"towpath/slots"
)

// sign is the number ahead of a checkpoint's bytes.
const sign = 0x57504f54

// castagnoli: the sum of bytes, by the library.
func castagnoli(b []byte) uint32 {
	return crc32.Checksum(b, crc32.MakeTable(crc32.Castagnoli))
}

// put: a head of these numbers, with the sum that they must have, and the bytes behind it.
func put(first uint32, generation uint64, length uint32, said []byte) []byte {
	b := binary.LittleEndian.AppendUint32(nil, first)
	b = binary.LittleEndian.AppendUint64(b, generation)
	b = binary.LittleEndian.AppendUint32(b, length)
	b = binary.LittleEndian.AppendUint32(b, castagnoli(slices.Concat(b[4:], said)))
	return append(b, said...)
}

// summed: the bytes with another sum.
func summed(b []byte, sum uint32) []byte {
	b = slices.Clone(b)
	binary.LittleEndian.PutUint32(b[16:], sum)
	return b
}

// bytesOf: a checkpoint's bytes.
func bytesOf(generation uint64, s api.Saved) []byte {
	said, e := dump.Encode(s)
	if e != api.OK {
		panic(e)
	}
	return put(sign, generation, uint32(len(said)), said)
}

// plainly: what the bytes of a slot say, by the chapter's words; generation 0: the slot is not whole.
func plainly(b []byte) (s api.Saved, generation uint64) {
	if len(b) < 20 || binary.LittleEndian.Uint32(b) != sign {
		return api.Saved{}, 0
	}
	generation = binary.LittleEndian.Uint64(b[4:])
	if generation > most || int(binary.LittleEndian.Uint32(b[12:])) != len(b)-20 {
		return api.Saved{}, 0
	}
	if castagnoli(slices.Concat(b[4:16], b[20:])) != binary.LittleEndian.Uint32(b[16:]) {
		return api.Saved{}, 0
	}
	s, e := dump.Decode(b[20:])
	if e != api.OK {
		return api.Saved{}, 0
	}
	return s, generation
}

// asPlainly: does Newest answer what the words say of the disk's bytes? Its answer is told, 0 if there is none.
func asPlainly(t testing.TB, d *disk.Disk) (generation uint64, slot int) {
	t.Helper()
	var want api.Saved
	for n := range 2 {
		b, _ := d.Read(n)
		if s, g := plainly(b); g > generation {
			want, generation, slot = s, g, n
		}
	}
	if generation == 0 {
		noNewest(t, d, api.OK)
	} else {
		newestIs(t, d, want, int(generation), slot)
	}
	return generation, slot
}

// model is a saver by the chapter's words: its bytes, its slot, and how many of its raw writes are done. It writes to a disk of its own.
type model struct {
	d    *disk.Disk
	slot int
	all  []byte
	done int
}

// left: how many raw writes there still are.
func (m *model) left() int { return 1 + (len(m.all)+63)/64 - m.done }

// step: the next raw write.
func (m *model) step() api.Errno {
	var e api.Errno
	switch {
	case m.left() == 0:
		return api.ErrIdle
	case m.done == 0:
		e = m.d.Clear(m.slot)
	default:
		at := 64 * (m.done - 1)
		e = m.d.Write(m.slot, at, m.all[at:min(at+64, len(m.all))])
	}
	if e == api.OK {
		m.done++
	}
	return e
}

// two are a disk and its model, each with its savers.
type two struct {
	t      testing.TB
	d, e   *disk.Disk
	savers []*slots.Saver
	models []*model
	seen   map[string]int
}

// both asks both disks for the same.
func (w *two) both(name string, ask func(d *disk.Disk) api.Errno) {
	w.t.Helper()
	is(w.t, name, ask(w.d), ask(w.e))
}

// begin: a saver of this, and its model.
func (w *two) begin(s api.Saved) {
	w.t.Helper()
	generation, slot := asPlainly(w.t, w.d)
	said, wrong := dump.Encode(s)
	switch {
	case wrong != api.OK:
		refused(w.t, w.d, s, api.ErrArg)
		w.seen["ErrArg"]++
	case generation == most:
		refused(w.t, w.d, s, api.ErrLimit)
		w.seen["ErrLimit"]++
	case 20+len(said) > w.d.Capacity():
		refused(w.t, w.d, s, api.ErrSpace)
		w.seen["ErrSpace"]++
	default:
		at := 0
		if generation > 0 {
			at = 1 - slot
		}
		w.savers = append(w.savers, saver(w.t, w.d, s))
		w.models = append(w.models, &model{d: w.e, slot: at, all: bytesOf(generation+1, s)})
		w.seen["slot "+strconv.Itoa(at)]++
	}
}

// step: that of one saver.
func (w *two) step(n int) {
	w.t.Helper()
	want := w.models[n].step()
	is(w.t, "Step", w.savers[n].Step(), want)
	w.seen["step "+strconv.Itoa(int(want))]++
}

// alike: are both disks alike, and all savers?
func (w *two) alike() {
	w.t.Helper()
	for n := range 2 {
		b, _ := w.e.Read(n)
		slotIs(w.t, w.d, n, b)
	}
	if w.d.Writes() != w.e.Writes() || w.d.Dead() != w.e.Dead() {
		w.t.Fatalf("Writes %d, %d, Dead %v, %v", w.d.Writes(), w.e.Writes(), w.d.Dead(), w.e.Dead())
	}
	for n, x := range w.savers {
		leftIs(w.t, x, w.models[n].left())
	}
	if g, _ := asPlainly(w.t, w.d); g > 0 {
		w.seen["whole"]++
	} else {
		w.seen["none"]++
	}
}

// some: what a checkpoint says by dice; now and then what none may say.
func some(r *rand.Rand) api.Saved {
	s := at(r.Intn(5) - r.Intn(2))
	for n := s.Mark + 2; n < s.Mark+2+r.Intn(4); n++ {
		s.Beyond = append(s.Beyond, n)
	}
	for i := range r.Intn(4) {
		h := held(strings.Repeat(string(rune('a'+i)), 1+r.Intn(9)))
		if s.Mark > 0 && r.Intn(3) > 0 {
			h.Versions = append(h.Versions, set(1+r.Intn(s.Mark), strings.Repeat("v", r.Intn(60))))
		}
		for _, n := range s.Beyond {
			if r.Intn(2) == 0 {
				h.Versions = append(h.Versions, drop(n))
			}
		}
		if len(h.Versions) > 0 || r.Intn(9) == 0 {
			s.Held = append(s.Held, h)
		}
	}
	return s
}

// foreign: a raw write of no saver, by dice: a slot is cleared, spoilt, or made whole.
func (w *two) foreign(r *rand.Rand) {
	w.t.Helper()
	slot := r.Intn(2)
	switch r.Intn(4) {
	case 0:
		w.both("Clear", func(d *disk.Disk) api.Errno { return d.Clear(slot) })
	case 1:
		b := []byte{byte(r.Intn(256))}
		place := r.Intn(40)
		w.both("Write", func(d *disk.Disk) api.Errno { return d.Write(slot, place, b) })
	default:
		b := bytesOf([]uint64{1, 2, 3, most - 1, most}[r.Intn(5)], at(r.Intn(9)))
		w.both("Clear", func(d *disk.Disk) api.Errno { return d.Clear(slot) })
		w.both("Write", func(d *disk.Disk) api.Errno { return d.Write(slot, 0, b) })
	}
}

// move: one thing by dice.
func (w *two) move(r *rand.Rand) {
	w.t.Helper()
	switch n := r.Intn(40); {
	case n < 6:
		w.begin(some(r))
	case n < 8:
		left := r.Intn(8) - 1
		w.both("Cut", func(d *disk.Disk) api.Errno { return d.Cut(left) })
	case n < 11:
		w.both("Mend", func(d *disk.Disk) api.Errno { return d.Mend() })
	case n < 13:
		w.foreign(r)
	case len(w.savers) > 0:
		// Most often the youngest: so that some are done without another one between.
		n := len(w.savers) - 1
		if r.Intn(8) == 0 {
			n = r.Intn(len(w.savers))
		}
		w.step(n)
	}
}

// P19.1 to P19.3: many calls by dice, held against the model.
func TestManyCalls(t *testing.T) {
	seen := map[string]int{}
	for seed := range 400 {
		r := rand.New(rand.NewSource(int64(seed)))
		capacity := 20 + r.Intn(400)
		w := &two{t: t, d: made(t, capacity), e: made(t, capacity), seen: seen}
		for range 120 {
			w.move(r)
			w.alike()
		}
	}
	for _, name := range []string{"ErrArg", "ErrLimit", "ErrSpace", "slot 0", "slot 1", "step 0", "step 6", "step 9", "step 11", "whole", "none"} {
		if seen[name] < 20 {
			t.Errorf("%s: seen %d times", name, seen[name])
		}
	}
}

// P19.4: savers one behind the other, cut anywhere and begun anew: the newest one is always the last that was done.
func TestTheLastThatWasDone(t *testing.T) {
	cuts, done := 0, 0
	for seed := range 300 {
		r := rand.New(rand.NewSource(int64(seed)))
		d := made(t, 1000)
		var last api.Saved
		generation := 0
		for range 20 {
			s := some(r)
			if dump.Check(s) != api.OK {
				continue
			}
			x := saver(t, d, s)
			is(t, "Cut", d.Cut(r.Intn(2+x.Left())), api.OK)
			for x.Left() > 0 && x.Step() == api.OK {
			}
			if x.Left() == 0 {
				last, generation = s, generation+1
				done++
			} else {
				cuts++
			}
			is(t, "Mend", d.Mend(), api.OK)
			if generation == 0 {
				noNewest(t, d, api.OK)
			} else {
				newestIs(t, d, last, generation, 1-generation%2)
			}
		}
	}
	if cuts < 500 || done < 500 {
		t.Errorf("%d cuts, %d done", cuts, done)
	}
}

// P19.1: bytes that are nearly a checkpoint's, with fitting sums, held against the words.
func TestNearlyCheckpoints(t *testing.T) {
	whole, not := 0, 0
	numbers := []uint64{0, 1, 2, 3, 1 << 32, most - 1, most, most + 1, 1 << 63, 1<<64 - 1}
	for seed := range 3000 {
		r := rand.New(rand.NewSource(int64(seed)))
		nearly := func() []byte {
			s := some(r)
			if dump.Check(s) != api.OK {
				s = at(1)
			}
			said, _ := dump.Encode(s)
			if r.Intn(3) == 0 {
				said[r.Intn(len(said))] ^= 1 << r.Intn(8)
			}
			length := uint32(len(said) + r.Intn(2)*r.Intn(2))
			b := put(sign, numbers[r.Intn(len(numbers))], length, said)
			return b[:len(b)-r.Intn(2)*r.Intn(2)]
		}
		if g, _ := asPlainly(t, with(t, nearly(), nearly())); g > 0 {
			whole++
		} else {
			not++
		}
	}
	if whole < 500 || not < 500 {
		t.Errorf("%d whole, %d not", whole, not)
	}
}

// FuzzNewest holds Newest against the words, of any bytes in the slots.
func FuzzNewest(f *testing.F) {
	f.Add(bytesOf(1, at(3)), []byte(nil), false)
	f.Add(bytesOf(1, rich()), bytesOf(2, at(9)), false)
	f.Add([]byte{3, 0, 0}, bytesOf(most, rich()), true)
	f.Fuzz(func(t *testing.T, zero, one []byte, head bool) {
		if head { // what is found is then no matter of a sum that fits by chance
			zero = put(sign, uint64(len(one)), uint32(len(zero)), zero)
		}
		if len(zero) > 1<<16 || len(one) > 1<<16 {
			return
		}
		d := with(t, zero, one)
		generation, slot := asPlainly(t, d)
		if generation == most {
			refused(t, d, at(1), api.ErrLimit)
			return
		}
		x := saver(t, d, at(1))
		if generation > 0 {
			slot = 1 - slot
		}
		for x.Left() > 0 {
			is(t, "Step", x.Step(), api.OK)
		}
		newestIs(t, d, at(1), int(generation)+1, slot)
	})
}

// FuzzCalls holds many calls against the model, by dice that bytes throw.
func FuzzCalls(f *testing.F) {
	f.Add(int64(1), 60, 200)
	f.Add(int64(2), 200, 60)
	f.Fuzz(func(t *testing.T, seed int64, count, capacity int) {
		if count > 300 || capacity < 0 || capacity > 2000 {
			return
		}
		r := rand.New(rand.NewSource(seed))
		w := &two{t: t, d: made(t, capacity), e: made(t, capacity), seen: map[string]int{}}
		for range count {
			w.move(r)
			w.alike()
		}
	})
}
