package gate_test

import (
	"math/rand"
	"slices"
	"testing"

	"towpath/api"
	"towpath/gate"
)

// model tells a gate by the mark at which it was made, and the numbers above that are there, each by itself.
type model struct {
	from  int
	there map[int]bool
}

// modelAt: all up to a mark, and some beyond it.
func modelAt(mark int, beyond []int) *model {
	m := &model{from: mark, there: map[int]bool{}}
	for _, n := range beyond {
		m.there[n] = true
	}
	return m
}

// has: is a number there?
func (m *model) has(n int) bool { return n >= 1 && n <= m.from || m.there[n] }

// mark: the greatest number such that all up to it are there.
func (m *model) mark() int {
	n := m.from
	for m.there[n+1] {
		n++
	}
	return n
}

// beyond: those above the mark.
func (m *model) beyond() []int {
	var l []int
	mark := m.mark()
	for n := range m.there {
		if n > mark {
			l = append(l, n)
		}
	}
	slices.Sort(l)
	return l
}

// done: one is there, in both, or both refuse it.
func (m *model) done(t *testing.T, g *gate.Gate, number int) {
	t.Helper()
	if number < 1 || number > api.MaxLog || m.has(number) {
		notDone(t, g, number, api.ErrArg)
		return
	}
	was := m.mark()
	m.there[number] = true
	done(t, g, number, m.mark()-was)
}

// agrees: is the gate what the model says, also when it is made anew of what it answers?
func (m *model) agrees(t *testing.T, g *gate.Gate, upto int) {
	t.Helper()
	mark, beyond := m.mark(), m.beyond()
	is(t, g, mark, beyond...)
	for n := -1; n <= upto; n++ {
		has(t, g, m.has(n), n)
	}
	has(t, g, false, g.Mark()+1)
	is(t, made(t, g.Mark(), g.Beyond()...), mark, beyond...)
	if t.Failed() {
		t.FailNow()
	}
}

// risingBy: numbers above one, with steps by the dice.
func risingBy(dice *rand.Rand, from, step, n int) []int {
	var l []int
	for range n {
		from += 1 + dice.Intn(step)
		l = append(l, from)
	}
	return l
}

// P12.1 to P12.4: whatever comes behind one another, held against the words.
func TestCallsByTheDice(t *testing.T) {
	up, kept, refused := 0, 0, 0
	for seed := range 200 {
		dice := rand.New(rand.NewSource(int64(seed)))
		mark := dice.Intn(200)
		beyond := risingBy(dice, mark+1, 1+dice.Intn(20), dice.Intn(10))
		g, m := made(t, mark, beyond...), modelAt(mark, beyond)
		wide := 3 + dice.Intn(20)
		for range 60 {
			was, were := m.mark(), len(m.there)
			m.done(t, g, m.mark()-2+dice.Intn(wide))
			m.agrees(t, g, m.mark()+wide+2)
			switch {
			case m.mark() > was:
				up++
			case len(m.there) > were:
				kept++
			default:
				refused++
			}
		}
	}
	if up < 1000 || kept < 1000 || refused < 1000 {
		t.Errorf("the mark went up %d times, stayed %d, refused %d", up, kept, refused)
	}
}

// P12.1: lists of all kinds, held against the words.
func TestNewByTheDice(t *testing.T) {
	good, bad := 0, 0
	for seed := range 5000 {
		dice := rand.New(rand.NewSource(int64(seed)))
		mark := dice.Intn(4)
		if seed%3 == 0 {
			mark = api.MaxLog - 9 + dice.Intn(11)
		}
		beyond := risingBy(dice, mark+dice.Intn(2), 3, dice.Intn(5))
		if len(beyond) > 0 && dice.Intn(4) == 0 {
			beyond[dice.Intn(len(beyond))] += dice.Intn(5) - 2
		}
		may := mark >= 0 && mark <= api.MaxLog
		for i, n := range beyond {
			may = may && n >= mark+2 && n <= api.MaxLog && (i == 0 || n > beyond[i-1])
		}
		if !may {
			notMade(t, mark, beyond...)
			bad++
			continue
		}
		is(t, made(t, mark, beyond...), mark, beyond...)
		good++
	}
	if good < 1000 || bad < 1000 {
		t.Errorf("%d may be, %d not", good, bad)
	}
}

// P12.4: the numbers of a log in all kinds of orders: the mark never goes down, goes up by what is answered, and in the end all is the same.
func TestOrderMakesNoDifference(t *testing.T) {
	for seed := range 40 {
		dice := rand.New(rand.NewSource(int64(seed)))
		mark := dice.Intn(300)
		numbers := risingBy(dice, mark, 1+dice.Intn(3), 300)
		want := modelAt(mark, numbers)
		for range 5 {
			dice.Shuffle(len(numbers), func(i, j int) { numbers[i], numbers[j] = numbers[j], numbers[i] })
			g := made(t, mark)
			was := mark
			for _, n := range numbers {
				up, e := g.Done(n)
				if e != api.OK || up < 0 || g.Mark() != was+up {
					t.Fatalf("Done(%d) = %d, %v at %d, then %d", n, up, e, was, g.Mark())
				}
				was = g.Mark()
				has(t, g, false, was+1)
				has(t, g, true, n)
			}
			want.agrees(t, g, slices.Max(numbers)+70)
		}
	}
}

// P12.4: all orders of a few numbers, across the edge of a word.
func TestAllOrdersOfAFew(t *testing.T) {
	for order := range 120 {
		left := []int{62, 63, 64, 65, 67}
		g, m := made(t, 61), modelAt(61, nil)
		for code := order; len(left) > 0; {
			at := code % len(left)
			code /= len(left)
			m.done(t, g, left[at])
			left = slices.Delete(left, at, at+1)
			m.agrees(t, g, 130)
		}
		is(t, g, 65, 67)
	}
}

// P12.4: a gate that is made anew of Mark and Beyond goes on as the one it was made of.
func TestNewOfWhatItAnswersGoesOn(t *testing.T) {
	for seed := range 50 {
		dice := rand.New(rand.NewSource(int64(seed)))
		g, h := made(t, 0), made(t, 0)
		for range 400 {
			n := g.Mark() + dice.Intn(40)
			up, e := g.Done(n)
			if got, code := h.Done(n); got != up || code != e {
				t.Fatalf("Done(%d) = %d, %v and %d, %v", n, up, e, got, code)
			}
			h = made(t, g.Mark(), g.Beyond()...)
		}
		is(t, h, g.Mark(), g.Beyond()...)
	}
}

// P12.1 to P12.4: a mark, then two bytes a call.
func FuzzGate(f *testing.F) {
	f.Add(uint16(3), []byte{0, 5, 0, 7, 0, 4, 0, 6})
	f.Add(uint16(60), []byte{0, 5, 1, 4, 0, 4, 0, 0, 0, 1, 0, 2, 0, 3})
	f.Add(uint16(65530), []byte{0, 1, 0, 2, 0, 3, 0, 4, 0, 5, 0, 6, 0, 7, 0, 8})
	f.Fuzz(func(t *testing.T, at uint16, calls []byte) {
		mark := int(at)
		g, m := made(t, mark), modelAt(mark, nil)
		upto := mark
		for len(calls) >= 2 {
			n := mark + int(calls[0])<<8 + int(calls[1])
			calls = calls[2:]
			m.done(t, g, n)
			upto = max(upto, n)
			is(t, g, m.mark(), m.beyond()...)
			has(t, g, m.has(n), n)
			has(t, g, false, g.Mark()+1)
		}
		m.agrees(t, g, upto+65)
	})
}
