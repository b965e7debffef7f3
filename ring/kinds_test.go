package ring_test

import (
	"testing"

	"towpath/api"
)

// goesThrough: a ring of things of this kind gives them back as they were, and a zero value where there is none.
func goesThrough[T any](t *testing.T, same func(a, b T) bool, l ...T) {
	t.Helper()
	var zero T
	r := madeOf[T](t, len(l))
	for round := range 3 {
		for i, x := range l {
			if !r.Put(x) || r.Len() != i+1 || r.Room() != len(l)-i-1 {
				t.Fatalf("Put of thing %d: Len = %d, Room = %d", i, r.Len(), r.Room())
			}
		}
		if r.Put(zero) {
			t.Error("Put = true, of a full ring")
		}
		n := 0
		for x := range r.All() {
			if !same(x, l[n]) {
				t.Errorf("All: thing %d is %v", n, x)
			}
			n++
		}
		if n != len(l) {
			t.Errorf("All: %d things, want %d", n, len(l))
		}
		if round == 2 {
			r.Close()
		}
		for i, want := range l {
			first, is := r.First()
			x, ok := r.Take()
			if !is || !ok || !same(first, want) || !same(x, want) {
				t.Errorf("thing %d: First = %v, %v, Take = %v, %v", i, first, is, x, ok)
			}
		}
		first, is := r.First()
		x, ok := r.Take()
		if is || ok || !same(first, zero) || !same(x, zero) {
			t.Errorf("none: First = %v, %v, Take = %v, %v", first, is, x, ok)
		}
	}
	if !r.Over() {
		t.Error("not over")
	}
}

// equal of what can be compared.
func equal[T comparable](a, b T) bool { return a == b }

// sameList: the same memory, or both none.
func sameList(a, b []int) bool {
	return len(a) == len(b) && (a == nil) == (b == nil) && (len(a) == 0 || &a[0] == &b[0])
}

// P10.2, P10.3, P10.5: things of any kind, zero values among them.
func TestThingsOfAnyKind(t *testing.T) {
	type pair struct {
		key string
		n   int
	}
	goesThrough(t, equal[string], "", "a", "", "\xff\x00", "a")
	goesThrough(t, equal[bool], false, true, false)
	goesThrough(t, equal[uint8], 0, 255, 1)
	goesThrough(t, equal[pair], pair{}, pair{"a", 1}, pair{"a", 2})
	goesThrough(t, equal[[3]int], [3]int{1, 2, 3}, [3]int{}, [3]int{3})
	goesThrough(t, equal[struct{}], struct{}{}, struct{}{}, struct{}{})
	goesThrough[error](t, equal[error], nil, api.ErrArg, api.ErrNil, nil)
	goesThrough[any](t, equal[any], nil, 1, "1", 1.5, pair{"a", 1})
	x, y := new(int), new(int)
	goesThrough(t, equal[*int], x, nil, y, x)
	goesThrough(t, equal[chan int], make(chan int), nil, make(chan int, 1))
	goesThrough(t, sameList, nil, []int{}, []int{1}, []int{1, 2})
	req := func(a, b api.Req) bool {
		return a.Kind == b.Kind && a.From == b.From && a.Number == b.Number && a.Write == b.Write && sameList(a.Beyond, b.Beyond)
	}
	goesThrough(t, req, api.Req{}, api.Req{Kind: api.ReqInstall, From: 1, Number: 2, Write: api.Write{Key: "a"}}, api.Req{Kind: api.ReqDump, From: -1, Beyond: []int{4, 6}})
}

// P10.2: functions, which can be called behind a Take as ahead of a Put.
func TestThingsThatAreFunctions(t *testing.T) {
	r := madeOf[func() int](t, 3)
	for i := range 3 {
		r.Put(func() int { return i })
	}
	for i := range 3 {
		if f, ok := r.Take(); !ok || f() != i {
			t.Errorf("not function %d", i)
		}
	}
	if f, ok := r.Take(); ok || f != nil {
		t.Error("a function of an empty ring")
	}
}
