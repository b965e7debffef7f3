package deps_test

import (
	"math/rand"
	"slices"
	"testing"

	"towpath/api"
	"towpath/deps"
)

// added is a transaction of a model: what it writes, for whom it waited when it was added, and whether it has ended, or was told.
type added struct {
	number int
	keys   []string
	ahead  []int
	ended  bool
	told   int
}

// model tells a table by all that were ever added, in order.
type model struct{ all []*added }

// of: the one of a number; nil: it was not added.
func (m *model) of(number int) *added {
	for _, a := range m.all {
		if a.number == number {
			return a
		}
	}
	return nil
}

// newest: the greatest number.
func (m *model) newest() int {
	if len(m.all) == 0 {
		return 0
	}
	return m.all[len(m.all)-1].number
}

// last: who wrote a key last.
func (m *model) last(key string) int {
	number := 0
	for _, a := range m.all {
		if slices.Contains(a.keys, key) {
			number = a.number
		}
	}
	return number
}

// open: the numbers of those that have not ended.
func (m *model) open() []int {
	var l []int
	for _, a := range m.all {
		if !a.ended {
			l = append(l, a.number)
		}
	}
	return l
}

// waits: for whom one still waits.
func (m *model) waits(a *added) []int {
	var l []int
	for _, number := range a.ahead {
		if !m.of(number).ended {
			l = append(l, number)
		}
	}
	return l
}

// adds: a transaction, to both.
func (m *model) adds(t *testing.T, x *deps.Table, number int, keys []string) {
	t.Helper()
	if number < 1 || number > api.MaxLog || slices.Contains(keys, "") || len(keys) > api.MaxWrites {
		noAdd(t, x, txn(number, keys...), api.ErrArg)
		return
	}
	if number <= m.newest() {
		noAdd(t, x, txn(number, keys...), api.ErrOrder)
		return
	}
	a := &added{number: number, keys: keys}
	for _, other := range m.all { // by rising numbers, each asked once
		if !other.ended && slices.ContainsFunc(keys, func(key string) bool { return m.last(key) == other.number }) {
			a.ahead = append(a.ahead, other.number)
		}
	}
	adds(t, x, txn(number, keys...), len(a.ahead))
	m.all = append(m.all, a)
}

// ends: one has ended, in both.
func (m *model) ends(t *testing.T, x *deps.Table, number int) {
	t.Helper()
	a := m.of(number)
	if a == nil || a.ended {
		notDone(t, x, number, api.ErrArg)
		return
	}
	if len(m.waits(a)) > 0 {
		notDone(t, x, number, api.ErrOrder)
		return
	}
	m.endsInTurn(t, a)
	a.ended = true
	var want []int
	for _, other := range m.all {
		if slices.Contains(other.ahead, number) && len(m.waits(other)) == 0 {
			want = append(want, other.number)
			other.told++
		}
	}
	done(t, x, number, want...)
}

// endsInTurn: does none end to whom an earlier open one is chained?
func (m *model) endsInTurn(t *testing.T, a *added) {
	t.Helper()
	for _, other := range m.all {
		if other.number < a.number && !other.ended && m.chained(other, a) {
			t.Errorf("%d ends ahead of %d", a.number, other.number)
		}
	}
}

// chained: by open ones and ended ones alike.
func (m *model) chained(a, b *added) bool {
	reached := []*added{a}
	for _, other := range m.all {
		if other.number > a.number && other.number <= b.number && slices.ContainsFunc(reached, func(r *added) bool { return neighbours(r, other) }) {
			reached = append(reached, other)
		}
	}
	return slices.Contains(reached, b) && a != b
}

// neighbours: is some key written by both?
func neighbours(a, b *added) bool {
	return slices.ContainsFunc(a.keys, func(key string) bool { return slices.Contains(b.keys, key) })
}

// agrees: is the table what the model says, by all calls that change nothing?
func (m *model) agrees(t *testing.T, x *deps.Table) {
	t.Helper()
	l := m.open()
	open(t, x, l...)
	if len(l) > 0 {
		waits(t, x, l[0]) // the least one waits for none
	}
	for _, a := range m.all {
		if a.ended {
			noWaits(t, x, a.number, api.ErrArg)
			continue
		}
		waits(t, x, a.number, m.waits(a)...)
		if slices.ContainsFunc(a.ahead, func(n int) bool { return n >= a.number }) {
			t.Errorf("%d waits for %v", a.number, a.ahead)
		}
	}
	for _, key := range letters() {
		last(t, x, key, m.last(key))
	}
	if t.Failed() {
		t.FailNow()
	}
}

// over: when all have ended, each that waited was told once, the others never.
func (m *model) over(t *testing.T, x *deps.Table, pick func(n int) int) {
	t.Helper()
	for len(m.open()) > 0 {
		var free []int
		for _, number := range m.open() {
			if len(m.waits(m.of(number))) == 0 {
				free = append(free, number)
			}
		}
		m.ends(t, x, free[pick(len(free))])
		m.agrees(t, x)
	}
	for _, a := range m.all {
		if want := min(len(a.ahead), 1); a.told != want {
			t.Errorf("%d waited for %v and was told %d times", a.number, a.ahead, a.told)
		}
	}
}

// letters: few keys, so that they meet.
func letters() []string { return []string{"a", "b", "c", "d", "e", "f", "g", "h"} }

// someOf: keys by the dice, some of them twice.
func someOf(dice *rand.Rand, n int) []string {
	l := make([]string, dice.Intn(n))
	for i := range l {
		l[i] = letters()[dice.Intn(8)]
	}
	return l
}

// P11.2 to P11.6: whatever comes behind one another, held against the words.
func TestCallsByTheDice(t *testing.T) {
	waited, ended, refused := 0, 0, 0
	for seed := range 300 {
		dice := rand.New(rand.NewSource(int64(seed)))
		m, x := &model{}, deps.New()
		adding, wide := 20+dice.Intn(60), 1+dice.Intn(6)
		for range 60 {
			if dice.Intn(100) < adding {
				m.adds(t, x, m.newest()-1+dice.Intn(5), someOf(dice, wide+1))
			} else {
				was := len(m.open())
				m.ends(t, x, dice.Intn(m.newest()+2))
				if len(m.open()) < was {
					ended++
				} else {
					refused++
				}
			}
			m.agrees(t, x)
		}
		for _, a := range m.all {
			waited += min(len(a.ahead), 1)
		}
		m.over(t, x, dice.Intn)
	}
	if waited < 1000 || ended < 1000 || refused < 1000 {
		t.Errorf("waited %d times, ended %d, refused %d", waited, ended, refused)
	}
}

// P11.6: of all logs of four transactions that write some of two keys each, by all orders in which they can end.
func TestAllOrdersOfSmallLogs(t *testing.T) {
	sets := [][]string{nil, {"a"}, {"b"}, {"b", "a"}}
	for code := range 256 {
		log := make([][]string, 4)
		for i := range log {
			log[i] = sets[code>>(2*i)%4]
		}
		for order := range 24 {
			m, x := &model{}, deps.New()
			for i, keys := range log {
				m.adds(t, x, i+1, keys)
			}
			left := order
			m.over(t, x, func(n int) int {
				at := left % n
				left /= n
				return at
			})
		}
	}
}

// P11.2 to P11.6: three bytes a call.
func FuzzTable(f *testing.F) {
	f.Add([]byte{1, 1, 0, 1, 2, 0, 1, 3, 0, 0, 2, 0, 0, 1, 0, 0, 3, 0})
	f.Add([]byte{3, 255, 255, 5, 1, 128, 0, 3, 0, 7, 129, 0})
	f.Fuzz(func(t *testing.T, calls []byte) {
		m, x := &model{}, deps.New()
		for len(calls) >= 3 && len(m.all) < 40 {
			call, a, b := int(calls[0]), int(calls[1]), int(calls[2])
			calls = calls[3:]
			if call%2 == 0 {
				m.ends(t, x, a)
			} else {
				var keys []string
				for i, key := range letters() {
					if a>>i&1 == 1 {
						keys = append(keys, key)
					}
				}
				if b == 7 {
					keys = append(keys, "")
				}
				m.adds(t, x, m.newest()+call/2%4, keys)
			}
			m.agrees(t, x)
		}
		m.over(t, x, func(n int) int { return n - 1 })
	})
}
