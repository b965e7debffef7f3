package ring_test

import (
	"math/rand"
	"testing"

	"towpath/ring"
)

// model tells a ring by all that was ever put, and how many of these were taken.
type model struct {
	capacity int
	put      []int
	taken    int
	closed   bool
}

// left: the things that are there.
func (m *model) left() []int { return m.put[m.taken:] }

// room: how many more could be put.
func (m *model) room() int {
	if m.closed {
		return 0
	}
	return m.capacity - len(m.left())
}

// puts: the next number, on both.
func (m *model) puts(t *testing.T, r *ring.Ring[int]) {
	t.Helper()
	x := len(m.put) + 1
	may := m.room() > 0
	if ok := r.Put(x); ok != may {
		t.Errorf("Put(%d) = %v, want %v", x, ok, may)
	}
	if may {
		m.put = append(m.put, x)
	}
}

// takes: the first thing, of both.
func (m *model) takes(t *testing.T, r *ring.Ring[int]) {
	t.Helper()
	want, is := 0, len(m.left()) > 0
	if is {
		want = m.left()[0]
		m.taken++
	}
	if x, ok := r.Take(); x != want || ok != is {
		t.Errorf("Take = %d, %v, want %d, %v", x, ok, want, is)
	}
}

// agrees: is the ring what the model says, by all calls that change nothing?
func (m *model) agrees(t *testing.T, r *ring.Ring[int]) {
	t.Helper()
	has(t, r, m.room(), m.left()...)
	overIs(t, r, m.closed && len(m.left()) == 0)
	if !m.closed && r.Len()+r.Room() != m.capacity {
		t.Errorf("Len and Room are together %d, not %d", r.Len()+r.Room(), m.capacity)
	}
	if t.Failed() {
		t.FailNow()
	}
}

// P10.6: whatever comes behind one another, held against the words.
func TestCallsByTheDice(t *testing.T) {
	full, empty := 0, 0
	for seed := range 400 {
		dice := rand.New(rand.NewSource(int64(seed)))
		m := &model{capacity: 1 + dice.Intn(20)}
		r := made(t, m.capacity)
		for range 10 {
			putting := dice.Intn(101)
			for range 30 {
				if dice.Intn(100) < putting {
					m.puts(t, r)
				} else {
					m.takes(t, r)
				}
				m.agrees(t, r)
				if len(m.left()) == m.capacity {
					full++
				}
				if len(m.left()) == 0 {
					empty++
				}
			}
			if dice.Intn(20) == 0 {
				m.closed = true
				r.Close()
				m.agrees(t, r)
			}
		}
	}
	if full < 1000 || empty < 1000 {
		t.Errorf("full %d times, empty %d times", full, empty)
	}
}

// P10.6: likewise, at the greatest capacity.
func TestCallsAtTheGreatestCapacity(t *testing.T) {
	m := &model{capacity: most}
	r := made(t, most)
	dice := rand.New(rand.NewSource(1))
	for _, putting := range []int{90, 30, 95, 5, 100, 50, 0} {
		for range most {
			if dice.Intn(100) < putting {
				m.puts(t, r)
			} else {
				m.takes(t, r)
			}
		}
		m.agrees(t, r)
	}
	r.Close()
	m.closed = true
	for len(m.left()) > 0 {
		m.takes(t, r)
	}
	m.agrees(t, r)
}

// P10.1 to P10.6: a byte a call.
func FuzzRing(f *testing.F) {
	f.Add(0, []byte{0})
	f.Add(65537, []byte{0})
	f.Add(2, []byte{0, 0, 0, 1, 0, 2, 1, 0, 1, 1})
	f.Add(5, []byte{0, 0, 0, 1, 1, 0, 0, 0, 0, 0, 1, 2, 1})
	f.Fuzz(func(t *testing.T, capacity int, calls []byte) {
		if capacity < 1 || capacity > most {
			if r, e := ring.New[int](capacity); r != nil || e != 1 {
				t.Errorf("New(%d) = %v, %v", capacity, r, e)
			}
			return
		}
		m := &model{capacity: capacity}
		r := made(t, capacity)
		for _, call := range calls {
			switch call % 16 {
			case 2:
				m.closed = true
				r.Close()
			case 1, 3, 5, 7, 9, 11:
				m.takes(t, r)
			default:
				m.puts(t, r)
			}
			m.agrees(t, r)
		}
	})
}
