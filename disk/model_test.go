package disk_test

import (
	"math/rand"
	"testing"

	"towpath/api"
	"towpath/disk"
)

// model tells a disk by what was asked of it: every place of every slot with what was written there last.
type model struct {
	capacity  int
	place     map[[2]int]byte
	length    [2]int
	asked     int // raw writes that nothing but the cut could refuse, since the cut
	allowed   int // how many of these the cut lets be done; below 0: any number
	dead      bool
	doneInAll int
}

// ask: may this raw write be done?
func (m *model) ask() api.Errno {
	m.asked++
	if m.allowed >= 0 && m.asked > m.allowed {
		m.dead = true
		return api.ErrCut
	}
	m.doneInAll++
	return api.OK
}

func (m *model) write(slot, at int, b []byte) api.Errno {
	if slot != 0 && slot != 1 || at < 0 || len(b) > 64 {
		return api.ErrArg
	}
	if at > m.length[slot] {
		return api.ErrOrder
	}
	if at+len(b) > m.capacity {
		return api.ErrSpace
	}
	if e := m.ask(); e != api.OK {
		return e
	}
	for i, x := range b {
		m.place[[2]int{slot, at + i}] = x
	}
	m.length[slot] = max(m.length[slot], at+len(b))
	return api.OK
}

func (m *model) clear(slot int) api.Errno {
	if slot != 0 && slot != 1 {
		return api.ErrArg
	}
	if e := m.ask(); e != api.OK {
		return e
	}
	m.length[slot] = 0
	return api.OK
}

func (m *model) cut(n int) api.Errno {
	if m.dead {
		return api.ErrCut
	}
	m.asked, m.allowed = 0, n
	return api.OK
}

func (m *model) mend() api.Errno {
	m.dead, m.asked, m.allowed = false, 0, -1
	return api.OK
}

func (m *model) bytes(slot int) string {
	b := make([]byte, m.length[slot])
	for i := range b {
		b[i] = m.place[[2]int{slot, i}]
	}
	return string(b)
}

// step: one call, told by a source of numbers, on both.
func step(t *testing.T, r *rand.Rand, m *model, d *disk.Disk) {
	t.Helper()
	slot := r.Intn(2)
	if r.Intn(20) == 0 {
		slot = r.Intn(5) - 2
	}
	switch r.Intn(12) {
	case 0:
		is(t, "Clear", d.Clear(slot), m.clear(slot))
	case 1:
		n := r.Intn(12) - 2
		is(t, "Cut", d.Cut(n), m.cut(n))
	case 2:
		if r.Intn(3) == 0 {
			is(t, "Mend", d.Mend(), m.mend())
		}
	default:
		b := make([]byte, r.Intn(12))
		if r.Intn(10) == 0 {
			b = make([]byte, r.Intn(70))
		}
		r.Read(b)
		at := r.Intn(m.length[slot&1] + 1)
		if r.Intn(10) == 0 {
			at = r.Intn(m.capacity+5) - 2
		}
		is(t, "Write", d.Write(slot, at, b), m.write(slot, at, b))
	}
}

// P4.6: whatever is asked, in whatever order, the disk is what its calls tell.
func TestManyCalls(t *testing.T) {
	for seed := range 300 {
		r := rand.New(rand.NewSource(int64(seed)))
		capacity := []int{0, 1, 7, 40, 200}[seed%5]
		m := &model{capacity: capacity, place: map[[2]int]byte{}, allowed: -1}
		d := made(t, capacity)
		for range 200 {
			step(t, r, m, d)
			holds(t, d, m.bytes(0), m.bytes(1), m.doneInAll)
			deadIs(t, d, m.dead)
			if t.Failed() {
				t.Fatalf("seed %d, capacity %d", seed, capacity)
			}
		}
	}
}

// P4.6: behind Cut(n) just n are done until Mend, refused ones between them or not.
func TestCutAmongRefusals(t *testing.T) {
	for n := range 12 {
		d := made(t, 20)
		is(t, "Write", d.Write(1, 0, []byte("stays")), api.OK)
		is(t, "Cut", d.Cut(n), api.OK)
		want := ""
		for i := range n + 5 {
			is(t, "no slot", d.Write(2, 0, nil), api.ErrArg)
			is(t, "Clear of no slot", d.Clear(-1), api.ErrArg)
			is(t, "behind the end", d.Write(0, len(want)+1, nil), api.ErrOrder)
			is(t, "above the capacity", d.Write(0, len(want), full(64)), api.ErrSpace)
			b := []byte{'a' + byte(i)}
			code := api.ErrCut
			if i < n {
				code = api.OK
			}
			is(t, "Write", d.Write(0, len(want), b), code)
			if i < n {
				want += string(b)
			}
			holds(t, d, want, "stays", 1+min(i+1, n))
		}
		is(t, "Mend", d.Mend(), api.OK)
		holds(t, d, want, "stays", n+1)
	}
}
