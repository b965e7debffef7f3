package chain_test

import (
	"math/rand"
	"slices"
	"testing"

	"towpath/api"
	"towpath/chain"
)

// someList: a list that may be, of numbers up to most, by the dice.
func someList(dice *rand.Rand, most int) []api.Version {
	var l []api.Version
	often := 1 + dice.Intn(4)
	for n := 1; n <= most; n++ {
		if dice.Intn(4) < often {
			l = append(l, someVersion(dice, n))
		}
	}
	return l
}

// someVersion: one of this number.
func someVersion(dice *rand.Rand, number int) api.Version {
	if dice.Intn(3) == 0 {
		return drop(number)
	}
	return set(number, string(rune('a'+dice.Intn(26))))
}

// newest: the place of the newest one at a mark, by a look at each; -1: none.
func newest(l []api.Version, mark int) int {
	at := -1
	for i, v := range l {
		if v.Number <= mark && (at < 0 || v.Number > l[at].Number) {
			at = i
		}
	}
	return at
}

// value: the key's value at a mark, by DOC.md's words.
func value(l []api.Version, mark int) (string, bool) {
	at := newest(l, mark)
	if at < 0 || l[at].Drop {
		return "", false
	}
	return l[at].Val, true
}

// sameValue: have two lists the same value at a mark, or both none?
func sameValue(a, b []api.Version, mark int) bool {
	x, xok := value(a, mark)
	y, yok := value(b, mark)
	return x == y && xok == yok
}

// putOf, collectOf and dumpOf: the calls, of what may be.
func putOf(t *testing.T, l []api.Version, v api.Version) ([]api.Version, bool) {
	t.Helper()
	out, ok, e := chain.Put(l, v)
	if e != api.OK {
		t.Fatalf("Put(%s, %s) = %v", show(l...), show(v), e)
	}
	return out, ok
}

func collectOf(t *testing.T, l []api.Version, least int) []api.Version {
	t.Helper()
	out, gone, e := chain.Collect(l, least)
	if e != api.OK || gone != len(l)-len(out) {
		t.Fatalf("Collect(%s, %d) = %s, %d, %v", show(l...), least, show(out...), gone, e)
	}
	return out
}

func dumpOf(t *testing.T, l []api.Version, mark int, beyond []int) []api.Version {
	t.Helper()
	out, e := chain.Dump(l, mark, beyond)
	if e != api.OK {
		t.Fatalf("Dump(%s, %d, %v) = %v", show(l...), mark, beyond, e)
	}
	return out
}

// asWords: does each call answer what the chapter's words say of it, at this mark?
func asWords(t *testing.T, l []api.Version, mark int, beyond []int) {
	t.Helper()
	top := newest(l, mark)
	var stay, dumped []api.Version
	for i, v := range l {
		if i >= top {
			stay = append(stay, v)
		}
		if i == top && !v.Drop || v.Number > mark && slices.Contains(beyond, v.Number) {
			dumped = append(dumped, v)
		}
	}
	if top < 0 {
		noneAt(t, l, mark)
	} else {
		at(t, l, mark, l[top])
	}
	collects(t, l, mark, len(l)-len(stay), stay...)
	dumps(t, l, mark, beyond, dumped...)
}

// P8.6: what is put is there, and all others are as they were.
func TestPutByTheDice(t *testing.T) {
	dice := rand.New(rand.NewSource(8))
	seen := map[bool]int{}
	for range 4000 {
		l := someList(dice, 12)
		v := someVersion(dice, 1+dice.Intn(13))
		there := slices.ContainsFunc(l, func(o api.Version) bool { return o.Number == v.Number })
		got, ok := putOf(t, l, v)
		seen[ok]++
		if ok == there {
			t.Fatalf("Put(%v, %v): %v", l, v, ok)
		}
		var less []api.Version
		for _, o := range got {
			if there || o != v {
				less = append(less, o)
			}
		}
		if chain.Check(got) != api.OK || !same(less, l) || !there && len(got) != len(l)+1 {
			t.Fatalf("Put(%v, %v) = %v", l, v, got)
		}
		again, ok := putOf(t, got, v)
		if ok || !same(again, got) {
			t.Fatalf("Put(%v, %v) = %v, %v", got, v, again, ok)
		}
	}
	if seen[true] < 500 || seen[false] < 500 {
		t.Errorf("put and there: %v", seen)
	}
}

// P8.6: in which order versions are put makes no difference.
func TestPutInAnyOrder(t *testing.T) {
	dice := rand.New(rand.NewSource(9))
	for range 400 {
		want := someList(dice, 15)
		var got []api.Version
		for _, i := range dice.Perm(len(want)) {
			var ok bool
			if got, ok = putOf(t, got, want[i]); !ok {
				t.Fatalf("%v of %v is not put", want[i], want)
			}
		}
		if !same(got, want) {
			t.Fatalf("%v, want %v", got, want)
		}
	}
}

// P8.3 to P8.5: held against the chapter's words.
func TestCallsByTheDice(t *testing.T) {
	dice := rand.New(rand.NewSource(10))
	for range 2000 {
		l := someList(dice, 12)
		beyond := make([]int, dice.Intn(8))
		for i := range beyond {
			beyond[i] = dice.Intn(18) - 2
		}
		for mark := -1; mark <= 14; mark++ {
			asWords(t, l, mark, beyond)
		}
	}
}

// P8.6: at a mark that is not below least Collect changes nothing; behind it at most one is at or below least.
func TestCollectKeepsWhatIsSeen(t *testing.T) {
	dice := rand.New(rand.NewSource(11))
	for range 500 {
		l := someList(dice, 12)
		for least := -1; least <= 14; least++ {
			got := collectOf(t, l, least)
			low := 0
			for _, v := range got {
				if v.Number <= least {
					low++
				}
			}
			if low > 1 {
				t.Fatalf("Collect(%v, %d) = %v", l, least, got)
			}
			for mark := least; mark <= 15; mark++ {
				if top := newest(l, mark); top < 0 {
					noneAt(t, got, mark)
				} else {
					at(t, got, mark, l[top])
				}
			}
			collects(t, got, least, 0, got...)
		}
	}
}

// P8.6: of a Dump, at the mark, and at any one above of which all versions' numbers up to it stand in beyond, the value is that of the list.
func TestDumpKeepsWhatIsSeen(t *testing.T) {
	dice := rand.New(rand.NewSource(12))
	held := 0
	for range 1500 {
		l := someList(dice, 12)
		var beyond []int
		for _, v := range l {
			if dice.Intn(4) > 0 {
				beyond = append(beyond, v.Number)
			}
		}
		dice.Shuffle(len(beyond), func(i, j int) { beyond[i], beyond[j] = beyond[j], beyond[i] })
		for mark := -1; mark <= 13; mark++ {
			got := dumpOf(t, l, mark, beyond)
			if chain.Check(got) != api.OK {
				t.Fatalf("Dump(%v, %d, %v) = %v", l, mark, beyond, got)
			}
			for above := mark; above <= 14; above++ {
				if slices.ContainsFunc(l, func(v api.Version) bool {
					return v.Number > mark && v.Number <= above && !slices.Contains(beyond, v.Number)
				}) {
					break
				}
				held++
				if !sameValue(got, l, above) {
					t.Fatalf("Dump(%v, %d, %v) = %v: at %d", l, mark, beyond, got, above)
				}
			}
		}
	}
	if held < 20000 {
		t.Errorf("only %d were held against one another", held)
	}
}

// answers: each list that the calls answer of one list.
func answers(t *testing.T, l []api.Version, beyond []int) [][]api.Version {
	t.Helper()
	put, _ := putOf(t, l, set(3, "z"))
	behind, _ := putOf(t, l, set(7, "z"))
	there, _ := putOf(t, l, set(4, "z"))
	return [][]api.Version{
		put, behind, there, collectOf(t, l, 0), collectOf(t, l, 4), collectOf(t, l, 9),
		dumpOf(t, l, 0, beyond), dumpOf(t, l, 3, beyond), dumpOf(t, l, 3, nil), dumpOf(t, l, 4, nil), dumpOf(t, l, 9, beyond),
	}
}

// spoil writes over a list and its spare room.
func spoil(l []api.Version) {
	l = l[:cap(l)]
	for i := range l {
		l[i] = api.Version{Number: -9, Val: "spoilt", Drop: true}
	}
}

// R4: what is handed in is not changed, its spare room neither; an answer is new memory, spare room too.
func TestMemory(t *testing.T) {
	room := append(docList(), set(8, "room"), set(9, "room"))
	kept := slices.Clone(room)
	numbers := []int{6, 4, 2, 77, 78}
	was := slices.Clone(numbers)
	l, beyond := room[:3], numbers[:3]
	want := answers(t, l, beyond)
	for i := range want {
		want[i] = slices.Clone(want[i])
	}
	got := answers(t, l, beyond)
	for i := range got {
		spoil(got[i])
		if !same(room, kept) || !slices.Equal(numbers, was) {
			t.Fatalf("answer %d shares memory with what was handed in: %v, %v", i, room, numbers)
		}
		for j := i + 1; j < len(got); j++ {
			if !same(got[j], want[j]) {
				t.Fatalf("answers %d and %d share memory", i, j)
			}
		}
	}
	got = answers(t, l, beyond)
	spoil(room)
	clear(numbers)
	for i := range got {
		if !same(got[i], want[i]) {
			t.Errorf("answer %d shares memory with what was handed in: %v, want %v", i, got[i], want[i])
		}
	}
}

// R5: the same answers again, whatever the spare room.
func TestSpareRoomMakesNoDifference(t *testing.T) {
	tight, roomy := docList(), append(make([]api.Version, 0, 40), docList()...)
	a, b := answers(t, tight[:3:3], []int{6, 4}), answers(t, roomy, append(make([]int, 0, 9), 6, 4))
	for i := range a {
		if !same(a[i], b[i]) {
			t.Errorf("answer %d: %v, %v", i, a[i], b[i])
		}
	}
}

// listOf: a list made of any bytes; it may be, or not.
func listOf(b []byte) []api.Version {
	var l []api.Version
	number := 0
	for i := 0; i+1 < len(b); i += 2 {
		number += int(int8(b[i]))
		if b[i] > 0x7f && b[i] < 0xf0 {
			number = int(b[i])<<9 + 256 // far up, and beyond the greatest
		}
		v := api.Version{Number: number, Drop: b[i+1]&1 == 1}
		if !v.Drop || b[i+1] == 0xff {
			v.Val = string(b[i+1 : i+2])
		}
		if b[i+1] == 0xfe {
			v.Val = long(api.MaxVal - 1 + int(b[i]&3))
		}
		l = append(l, v)
	}
	return l
}

// mayBe: may a list be, by the chapter's words?
func mayBe(l []api.Version) bool {
	for i, v := range l {
		if v.Number < 1 || v.Number > api.MaxLog || len(v.Val) > api.MaxVal || v.Drop && v.Val != "" || i > 0 && l[i-1].Number >= v.Number {
			return false
		}
	}
	return true
}

func FuzzChain(f *testing.F) {
	f.Add([]byte{2, 'x', 2, 1, 2, 'y'}, 3, []byte{6})
	f.Add([]byte{2, 'x', 0, 'y'}, 0, []byte{})
	f.Add([]byte{1, 0xff}, -1, []byte{1, 2})
	f.Add([]byte{1, 0xfe, 3, 0xfe, 0x80, 2, 0x81, 4}, 70000, []byte{1, 4, 200})
	f.Fuzz(func(t *testing.T, b []byte, mark int, named []byte) {
		l := listOf(b[:min(len(b), 80)])
		if !mayBe(l) {
			refused(t, l)
			return
		}
		accepted(t, l)
		var beyond []int
		for _, n := range named {
			beyond = append(beyond, int(int8(n)))
		}
		for _, m := range []int{mark, mark % 100} {
			asWords(t, l, m, beyond)
			v := set(m, "q")
			if !mayBe(list(v)) {
				noPut(t, l, v)
				continue
			}
			got, ok := putOf(t, l, v)
			if top := newest(l, m); top >= 0 && l[top].Number == m {
				if ok || !same(got, l) {
					t.Fatalf("Put(%s, %s) = %s, %v", show(l...), show(v), show(got...), ok)
				}
			} else if want := slices.Insert(slices.Clone(l), top+1, v); !ok || !same(got, want) {
				t.Fatalf("Put(%s, %s) = %s, %v", show(l...), show(v), show(got...), ok)
			}
		}
	})
}
