package logfile_test

import (
	"math"
	"math/rand"
	"slices"
	"testing"

	"towpath/api"
	"towpath/logfile"
)

// source: of a log that may be.
func source(t *testing.T, l []api.Txn) *logfile.Source {
	t.Helper()
	s, e := logfile.New(l)
	if e != api.OK || s == nil {
		t.Fatalf("New(%#v) = %v, %v", l, s, e)
	}
	return s
}

// gives: does Get answer this transaction?
func gives(t *testing.T, s *logfile.Source, x api.Txn) {
	t.Helper()
	if got, e := s.Get(x.Number); e != api.OK || !sameTxn(got, x) {
		t.Errorf("Get(%d) = %#v, %v, want %#v", x.Number, got, e, x)
	}
}

// refuses: does Get answer this error, and no transaction?
func refuses(t *testing.T, s *logfile.Source, number int, want api.Errno) {
	t.Helper()
	if x, e := s.Get(number); e != want || x.Number != 0 || x.Writes != nil {
		t.Errorf("Get(%d) = %#v, %v, want %v", number, x, e, want)
	}
}

// wasAsked: does Asked tell these numbers?
func wasAsked(t *testing.T, s *logfile.Source, want ...int) {
	t.Helper()
	if l := s.Asked(); !slices.Equal(l, want) {
		t.Errorf("Asked = %v, want %v", l, want)
	}
}

// P6.4, P6.5: the chapter's row.
func TestExamplesOfSource(t *testing.T) {
	l := chapterLog()
	s := source(t, l)
	if n := s.Last(); n != 2 {
		t.Errorf("Last = %d", n)
	}
	wasAsked(t, s)
	gives(t, s, l[1])
	gives(t, s, l[0])
	gives(t, s, l[1])
	refuses(t, s, 3, api.ErrArg)
	refuses(t, s, 0, api.ErrArg)
	wasAsked(t, s, 2, 1, 2)
}

// P6.5, R3: the chapter's row of a nil source; a zero struct is as one that is not there.
func TestNoSource(t *testing.T) {
	for i, s := range []*logfile.Source{nil, {}} {
		for range 2 {
			refuses(t, s, 1, api.ErrNil)
			refuses(t, s, 0, api.ErrNil)
			refuses(t, s, -1, api.ErrNil)
			if l, n := s.Asked(), s.Last(); l != nil || n != 0 {
				t.Errorf("%d: Asked = %v, Last = %d", i, l, n)
			}
		}
	}
}

// P6.4, P6.5: a source of no transactions is one.
func TestSourceOfNone(t *testing.T) {
	for _, none := range [][]api.Txn{nil, {}} {
		s := source(t, none)
		for _, n := range []int{0, 1, -1} {
			refuses(t, s, n, api.ErrArg)
		}
		wasAsked(t, s)
		if n := s.Last(); n != 0 {
			t.Errorf("Last = %d", n)
		}
	}
}

// P6.5: all numbers, and those beside them.
func TestSourceOfTheEdges(t *testing.T) {
	for i, l := range mayBe() {
		s := source(t, l)
		if n := s.Last(); n != len(l) {
			t.Errorf("%d: Last = %d, want %d", i, n, len(l))
		}
		var asked []int
		for _, x := range l {
			gives(t, s, x)
			asked = append(asked, x.Number)
		}
		for _, n := range []int{0, -1, len(l) + 1, len(l) + 2, math.MinInt, math.MaxInt, 1<<32 + 1, -1<<32 + 1} {
			refuses(t, s, n, api.ErrArg)
		}
		wasAsked(t, s, asked...)
	}
}

// P6.5: as many as may be.
func TestSourceOfTheLongest(t *testing.T) {
	s := source(t, empties(api.MaxLog))
	if n := s.Last(); n != api.MaxLog {
		t.Errorf("Last = %d", n)
	}
	gives(t, s, txn(api.MaxLog))
	refuses(t, s, api.MaxLog+1, api.ErrArg)
	wasAsked(t, s, api.MaxLog)
}

// P6.5: Asked and Last ask for nothing, however often; Get asks each time anew.
func TestAskedAsksForNothing(t *testing.T) {
	s := source(t, chapterLog())
	for i := range 40 {
		wasAsked(t, s, slices.Repeat([]int{1}, i)...)
		wasAsked(t, s, slices.Repeat([]int{1}, i)...)
		if n := s.Last(); n != 2 {
			t.Errorf("Last = %d", n)
		}
		gives(t, s, chapterLog()[0])
	}
}

// R4: what is done to the log later does not show.
func TestSourceKeepsTheContent(t *testing.T) {
	l := chapterLog()
	s := source(t, l)
	l[0].Writes[0] = set("z", "z")
	l[1] = txn(7)
	for _, x := range chapterLog() {
		gives(t, s, x)
	}
}

// R4: what is done to an answer does not show in the next one; spare room neither.
func TestSourceAnswersNewMemory(t *testing.T) {
	l := []api.Txn{txn(1, set("a", "1"), drop("b")), txn(2, set("c", "2"))}
	s := source(t, l)
	x, _ := s.Get(1)
	y, _ := s.Get(1)
	w := x.Writes[:cap(x.Writes)]
	for i := range w {
		w[i] = set("spoilt", "spoilt")
	}
	if !sameTxn(y, l[0]) {
		t.Errorf("one answer shows in another: %v", y)
	}
	gives(t, s, l[0])
	gives(t, s, l[1])
	first := s.Asked()
	second := s.Asked()
	for i := range first[:cap(first)] {
		first[:cap(first)][i] = 99
	}
	gives(t, s, l[1])
	if !slices.Equal(second, []int{1, 1, 1, 2}) {
		t.Errorf("one answer of Asked shows in another: %v", second)
	}
	wasAsked(t, s, 1, 1, 1, 2, 2)
}

// R5: two sources of one log share nothing.
func TestSourcesSideBySide(t *testing.T) {
	l := chapterLog()
	a, b := source(t, l), source(t, l)
	x, _ := a.Get(1)
	x.Writes[0] = set("spoilt", "spoilt")
	gives(t, b, l[0])
	gives(t, a, l[1])
	wasAsked(t, a, 1, 2)
	wasAsked(t, b, 1)
}

// P6.5: any numbers, held against a plain list.
func TestSourceByTheDice(t *testing.T) {
	dice := rand.New(rand.NewSource(6))
	for range 200 {
		l := someLog(dice, 12)
		s := source(t, l)
		var asked []int
		for range 60 {
			n := dice.Intn(len(l)+5) - 2
			if n < 1 || n > len(l) {
				refuses(t, s, n, api.ErrArg)
				continue
			}
			gives(t, s, l[n-1])
			asked = append(asked, n)
		}
		wasAsked(t, s, asked...)
	}
}
