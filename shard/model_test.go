package shard_test

import (
	"math/rand"
	"slices"
	"testing"

	"towpath/api"
	"towpath/shard"
)

// fact: a key has this version. A model is facts, in no order.
type fact struct {
	key string
	v   api.Version
}

// someKeys: few, so that they meet; one is the beginning of another, one is above all ASCII.
func someKeys() []string { return []string{"A", "a", "ab", "b", "\xff"} }

// someTexts: bounds of stretches, keys and others.
func someTexts() []string { return append(someKeys(), "", "\x00", "aa", "a\x00", "c", "\xff\xff") }

// most is the greatest number of a version that the dice take.
const most = 9

// oneOf: one of these texts, by the dice.
func oneOf(dice *rand.Rand, l []string) string { return l[dice.Intn(len(l))] }

// someFact: one by the dice.
func someFact(dice *rand.Rand) fact {
	f := fact{oneOf(dice, someKeys()), drop(1 + dice.Intn(most))}
	if dice.Intn(3) > 0 {
		f.v = set(f.v.Number, string(rune('a'+dice.Intn(26))))
	}
	return f
}

// someFacts: no two of one key and one number.
func someFacts(dice *rand.Rand) []fact {
	var l []fact
	for range dice.Intn(40) {
		if f := someFact(dice); !there(l, f) {
			l = append(l, f)
		}
	}
	return l
}

// there: has its key a version of its number?
func there(l []fact, f fact) bool {
	return slices.ContainsFunc(l, func(o fact) bool { return o.key == f.key && o.v.Number == f.v.Number })
}

// write of a fact.
func (f fact) write() api.Write { return api.Write{Key: f.key, Val: f.v.Val, Drop: f.v.Drop} }

// made: a shard into which these are installed, in this order.
func made(t *testing.T, l []fact) *shard.Shard {
	t.Helper()
	s := shard.New()
	for _, f := range l {
		installs(t, s, f.v.Number, f.write(), true)
	}
	return s
}

// heldOf: the facts by rising keys and numbers.
func heldOf(l []fact) []api.Held {
	var out []api.Held
	for _, key := range slices.Sorted(slices.Values(someKeys())) {
		var of []api.Version
		for number := 1; number <= most; number++ {
			for _, f := range l {
				if f.key == key && f.v.Number == number {
					of = append(of, f.v)
				}
			}
		}
		if len(of) > 0 {
			out = append(out, api.Held{Key: key, Versions: of})
		}
	}
	return out
}

// hidden: has the fact's key a newer one that is at most the mark, or is it above the mark itself?
func hidden(l []fact, f fact, mark int) bool {
	return f.v.Number > mark || slices.ContainsFunc(l, func(o fact) bool {
		return o.key == f.key && o.v.Number > f.v.Number && o.v.Number <= mark
	})
}

// value: the key's value at a mark, by DOC.md's words.
func value(l []fact, key string, mark int) (string, bool) {
	for _, f := range l {
		if f.key == key && !hidden(l, f, mark) {
			return f.v.Val, !f.v.Drop
		}
	}
	return "", false
}

// getsAsWords: does Get answer the value at the mark?
func getsAsWords(t *testing.T, s *shard.Shard, l []fact, key string, mark int) {
	t.Helper()
	if val, ok := value(l, key, mark); ok {
		gets(t, s, key, mark, val)
	} else {
		getsNone(t, s, key, mark)
	}
}

// scansAsWords: does Scan answer the entries of the stretch at the mark?
func scansAsWords(t *testing.T, s *shard.Shard, l []fact, key, end string, mark int) {
	t.Helper()
	var want []string
	for _, h := range heldOf(l) {
		if val, ok := value(l, h.Key, mark); ok && h.Key >= key && (end == "" || h.Key < end) {
			want = append(want, h.Key, val)
		}
	}
	scans(t, s, key, end, mark, want...)
}

// dumpOf: what a Dump has of the facts, by the chapters' words.
func dumpOf(l []fact, mark int, beyond []int) []api.Held {
	var kept []fact
	for _, f := range l {
		if !hidden(l, f, mark) && !f.v.Drop || f.v.Number > mark && slices.Contains(beyond, f.v.Number) {
			kept = append(kept, f)
		}
	}
	return heldOf(kept)
}

// collectOf: what a Collect leaves of the facts, by the chapters' words.
func collectOf(l []fact, least int) []fact {
	var kept []fact
	for _, f := range l {
		if f.v.Number > least || !hidden(l, f, least) {
			kept = append(kept, f)
		}
	}
	return kept
}

// asWords: does each call that changes nothing answer what the chapter's words say of it, at a mark and with bounds by the dice?
func asWords(t *testing.T, dice *rand.Rand, s *shard.Shard, l []fact) {
	t.Helper()
	has(t, s, heldOf(l)...)
	mark := dice.Intn(most+4) - 1
	for _, key := range someTexts() {
		getsAsWords(t, s, l, key, mark)
	}
	scansAsWords(t, s, l, oneOf(dice, someTexts()), oneOf(dice, someTexts()), mark)
	beyond := make([]int, dice.Intn(6))
	for i := range beyond {
		beyond[i] = dice.Intn(most+4) - 1
	}
	dumps(t, s, mark, beyond, dumpOf(l, mark, beyond)...)
	has(t, s, heldOf(l)...)
}

// P9.2 to P9.6: whatever comes behind one another, held against the words.
func TestCallsByTheDice(t *testing.T) {
	dice := rand.New(rand.NewSource(9))
	var new, old, collected int
	for range 300 {
		s, l := shard.New(), []fact(nil)
		for range 40 {
			f := someFact(dice)
			is := there(l, f)
			installs(t, s, f.v.Number, f.write(), !is)
			if is {
				old++
			} else {
				l = append(l, f)
				new++
			}
			if dice.Intn(8) == 0 {
				least := dice.Intn(most+4) - 1
				kept := collectOf(l, least)
				collects(t, s, least, len(l)-len(kept), heldOf(kept)...)
				collected += len(l) - len(kept)
				l = kept
			}
			asWords(t, dice, s, l)
			if t.Failed() {
				t.FailNow()
			}
		}
	}
	if new < 1000 || old < 1000 || collected < 1000 {
		t.Errorf("installed %d, there already %d, collected %d", new, old, collected)
	}
}

// P9.7: in which order writes are installed makes no difference.
func TestInstallInAnyOrder(t *testing.T) {
	dice := rand.New(rand.NewSource(10))
	for range 500 {
		l := someFacts(dice)
		want := heldOf(l)
		has(t, made(t, l), want...)
		dice.Shuffle(len(l), func(i, j int) { l[i], l[j] = l[j], l[i] })
		has(t, made(t, l), want...)
		slices.Reverse(l)
		has(t, made(t, l), want...)
	}
}

// P9.7: Load of All is the same shard, by all that can be asked of it, and by all that comes later.
func TestLoadOfAll(t *testing.T) {
	dice := rand.New(rand.NewSource(11))
	for range 300 {
		l := someFacts(dice)
		first := made(t, l)
		again := loads(t, first.All()...)
		asWords(t, dice, again, l)
		for _, s := range []*shard.Shard{first, again} {
			f := fact{"a", set(most, "z")}
			installs(t, s, most, f.write(), !there(l, f))
		}
		has(t, again, first.All()...)
		if first.Collect(5) != again.Collect(5) {
			t.Fatalf("Collect: not the same, of %s", show(heldOf(l)))
		}
		has(t, again, first.All()...)
	}
}

// P9.7: Scan has just the keys whose Get is true.
func TestScanHasWhatGetHas(t *testing.T) {
	dice := rand.New(rand.NewSource(12))
	for range 300 {
		s := made(t, someFacts(dice))
		for mark := -1; mark <= most+1; mark++ {
			var want []string
			for _, key := range slices.Sorted(slices.Values(someKeys())) {
				if val, ok := s.Get(key, mark); ok {
					want = append(want, key, val)
				}
			}
			scans(t, s, "", "", mark, want...)
		}
	}
}

// P9.7: Collect changes no Get and no Scan at a mark that is not below least.
func TestCollectKeepsWhatIsSeen(t *testing.T) {
	dice := rand.New(rand.NewSource(13))
	for range 300 {
		l := someFacts(dice)
		for least := -1; least <= most+1; least++ {
			s := made(t, l)
			s.Collect(least)
			for mark := least; mark <= most+2; mark++ {
				for _, key := range someKeys() {
					getsAsWords(t, s, l, key, mark)
				}
				scansAsWords(t, s, l, "", "", mark)
			}
			for _, h := range s.All() {
				if len(h.Versions) > 1 && h.Versions[1].Number <= least {
					t.Fatalf("Collect(%d) leaves %s", least, show(list(h)))
				}
			}
		}
	}
}

// spoil writes over lists and their spare room.
func spoil(l []api.Held) {
	l = l[:cap(l)]
	for i := range l {
		v := l[i].Versions[:cap(l[i].Versions)]
		for j := range v {
			v[j] = api.Version{Number: -9, Val: "spoilt", Drop: true}
		}
		l[i] = api.Held{Key: "spoilt"}
	}
}

// spoilEntries writes over entries and their spare room.
func spoilEntries(l []api.Entry) {
	l = l[:cap(l)]
	for i := range l {
		l[i] = api.Entry{Key: "spoilt", Val: "spoilt"}
	}
}

// R4: an answer is new memory, spare room too: what is done to it changes neither the shard nor another answer.
func TestMemoryOfAnswers(t *testing.T) {
	s := docShard(t)
	installs(t, s, 4, write("a", "w"), true)
	want := list(held("a", set(1, "x"), drop(3), set(4, "w")), held("b", set(2, "y")))
	answers := func() [][]api.Held {
		return [][]api.Held{s.All(), s.All(), s.Dump(2, []int{3, 4}), s.Dump(4, nil), s.Dump(0, []int{1, 2, 3, 4})}
	}
	kept := answers()
	for i := range kept {
		got := answers()
		spoil(got[i])
		for j := range got {
			if j != i && !same(got[j], kept[j]) {
				t.Errorf("answers %d and %d share memory", i, j)
			}
		}
		has(t, s, want...)
	}
	one, two := s.Scan("", "", 4), s.Scan("", "", 4)
	spoilEntries(one)
	if !slices.Equal(two, entries("a", "w", "b", "y")) {
		t.Errorf("two Scans share memory: %q", two)
	}
	scans(t, s, "", "", 4, "a", "w", "b", "y")
	had := s.All()
	installs(t, s, 5, gone("a"), true)
	installs(t, s, 2, write("a", "v"), true)
	s.Collect(9)
	if !same(had, want) {
		t.Errorf("what was answered changed: %s", show(had))
	}
}

// R4: no two lists of one answer share memory, spare room too.
func TestMemoryWithinAnAnswer(t *testing.T) {
	s := docShard(t)
	installs(t, s, 4, write("b", "z"), true)
	for i, l := range [][]api.Held{s.All(), s.Dump(2, []int{3, 4})} {
		want := held(l[1].Key, slices.Clone(l[1].Versions)...)
		spoil(l[:1:1])
		if !same(l[1:], list(want)) {
			t.Errorf("answer %d: %s, want %s", i, show(l[1:]), show(list(want)))
		}
	}
}

// R4: what is handed to Load is not changed, its spare room neither, and not kept but by its content.
func TestMemoryOfLoad(t *testing.T) {
	room := []api.Version{set(1, "x"), drop(3), set(8, "room"), set(9, "room")}
	l := list(held("a", room[:2]...), held("b", room[:1]...), held("room"))
	handed := l[:2]
	unchanged := func() {
		t.Helper()
		if !slices.Equal(room, []api.Version{set(1, "x"), drop(3), set(8, "room"), set(9, "room")}) || !same(l, list(held("a", room[:2]...), held("b", room[:1]...), held("room"))) {
			t.Fatalf("what was handed in changed: %s, %s", show(l), showVersions(room))
		}
	}
	s, other := loads(t, handed...), loads(t, handed...)
	installs(t, s, 5, write("a", "5"), true)
	installs(t, s, 2, gone("a"), true)
	installs(t, s, 2, write("b", "2"), true)
	unchanged()
	has(t, s, held("a", set(1, "x"), drop(2), drop(3), set(5, "5")), held("b", set(1, "x"), set(2, "2")))
	has(t, other, held("a", set(1, "x"), drop(3)), held("b", set(1, "x")))
	s.Collect(9)
	unchanged()
	spoil(l)
	has(t, s, held("a", set(5, "5")), held("b", set(2, "2")))
	has(t, other, held("a", set(1, "x"), drop(3)), held("b", set(1, "x")))
}

// R4: beyond is not changed, its spare room neither.
func TestMemoryOfBeyond(t *testing.T) {
	numbers := []int{4, 3, 3, 77, 78}
	docShard(t).Dump(1, numbers[:3])
	if !slices.Equal(numbers, []int{4, 3, 3, 77, 78}) {
		t.Errorf("beyond is now %v", numbers)
	}
}

// R5: two shards share nothing; many keys come out in order, whatever order the map has.
func TestManyKeys(t *testing.T) {
	var want []api.Held
	for a := range 256 {
		for b := range 8 {
			want = append(want, held(string([]byte{byte(a), byte(b)}), set(1+b, "v")))
		}
	}
	s, other := shard.New(), loads(t, want...)
	for _, i := range rand.New(rand.NewSource(14)).Perm(len(want)) {
		installs(t, s, want[i].Versions[0].Number, write(want[i].Key, "v"), true)
	}
	for range 3 {
		has(t, s, want...)
		has(t, other, want...)
		dumps(t, s, 8, nil, want...)
	}
	collects(t, s, 8, 0, want...)
	for i, e := range s.Scan("", "", 8) {
		if e.Key != want[i].Key {
			t.Fatalf("Scan: %q at %d", e.Key, i)
		}
	}
	installs(t, s, 9, gone("q"), true)
	has(t, other, want...)
}

// factsOf: facts made of any bytes, three each; they may be, or not.
func factsOf(b []byte) []fact {
	var l []fact
	for ; len(b) >= 3; b = b[3:] {
		f := fact{string(b[:1]), api.Version{Number: int(int8(b[1])), Val: string(b[2:3]), Drop: b[2] == 1}}
		switch {
		case b[0] == 0xfe:
			f.key = long(api.MaxKey - 1 + int(b[2]&3))
		case b[0] == 0xfd:
			f.key = ""
		}
		switch {
		case b[2] < 0x20 && b[2] != 1:
			f.v.Val, f.v.Drop = "", b[2]&1 == 0
		case b[2] > 0xf0:
			f.v.Val = long(api.MaxVal - 1 + int(b[2]&3))
		}
		l = append(l, f)
	}
	return l
}

// mayBe: may a fact be, by the words?
func mayBe(f fact) bool {
	return len(f.key) >= 1 && len(f.key) <= api.MaxKey && f.v.Number >= 1 && f.v.Number <= api.MaxLog && len(f.v.Val) <= api.MaxVal && (!f.v.Drop || f.v.Val == "")
}

// loadable: may this be loaded, by the chapter's words?
func loadable(l []api.Held) bool {
	for i, h := range l {
		if i > 0 && l[i-1].Key >= h.Key || len(h.Versions) == 0 {
			return false
		}
		for j, v := range h.Versions {
			if !mayBe(fact{h.Key, v}) || j > 0 && h.Versions[j-1].Number >= v.Number {
				return false
			}
		}
	}
	return true
}

// byKeys: facts as keys with versions, in the order in which they come; one that is behind another of the same key joins it.
func byKeys(l []fact) []api.Held {
	var out []api.Held
	for _, f := range l {
		if n := len(out); n > 0 && out[n-1].Key == f.key {
			out[n-1].Versions = append(out[n-1].Versions, f.v)
			continue
		}
		out = append(out, held(f.key, f.v))
	}
	return out
}

func FuzzShard(f *testing.F) {
	f.Add([]byte("a\x01xb\x02ya\x03\x00"), 2, "", "b")
	f.Add([]byte("a\x03xa\x02ya\x02z"), 3, "a", "")
	f.Add([]byte("\xfe\x01x\xfd\x02ya\x81\x00a\x01\xf2"), -1, "b", "a")
	f.Fuzz(func(t *testing.T, b []byte, mark int, key, end string) {
		l := factsOf(b[:min(len(b), 90)])
		s := shard.New()
		var in []fact
		for _, one := range l {
			if !mayBe(one) {
				noInstall(t, s, one.v.Number, one.write())
				continue
			}
			is := there(in, one)
			installs(t, s, one.v.Number, one.write(), !is)
			if !is {
				in = append(in, one)
			}
		}
		again := loads(t, s.All()...)
		has(t, again, s.All()...)
		for _, m := range []int{mark, mark % 128} {
			getsAsWords(t, again, in, key, m)
			for _, e := range s.Scan(key, end, m) {
				if val, ok := value(in, e.Key, m); !ok || val != e.Val || e.Key < key || end != "" && e.Key >= end {
					t.Errorf("Scan(%q, %q, %d) has %q", key, end, m, e)
				}
			}
			kept := collectOf(in, m)
			if n := again.Collect(m); n != len(in)-len(kept) || n != s.Collect(m) || s.Size() != len(kept) {
				t.Errorf("Collect(%d) = %d, want %d", m, n, len(in)-len(kept))
			}
			in = kept
		}
		if h := byKeys(l); loadable(h) {
			has(t, loads(t, h...), h...)
		} else {
			noLoad(t, h...)
		}
	})
}
