package dump_test

import (
	"bytes"
	"encoding/binary"
	"hash/fnv"
	"math/rand"
	"slices"
	"sort"
	"strconv"
	"testing"

	"towpath/api"
	"towpath/dump"
	"towpath/shard"
)

// bytesOf: what a checkpoint says as bytes, by the chapter's words, without the writer; of anything.
func bytesOf(s api.Saved) []byte {
	var b []byte
	number := func(n int) { b = binary.AppendUvarint(b, uint64(n)) }
	text := func(s string) {
		number(len(s))
		b = append(b, s...)
	}
	number(s.Mark)
	number(len(s.Beyond))
	for _, n := range s.Beyond {
		number(n)
	}
	number(len(s.Held))
	for _, h := range s.Held {
		text(h.Key)
		number(len(h.Versions))
		for _, v := range h.Versions {
			number(v.Number)
			if v.Drop {
				b = append(b, 1)
			} else {
				b = append(b, 0)
				text(v.Val)
			}
		}
	}
	return b
}

// plainMay: may what a checkpoint says be, by the chapter's words, one after the other?
func plainMay(s api.Saved) bool {
	if s.Mark < 0 || s.Mark > 65536 {
		return false
	}
	there := map[int]int{}
	for i, n := range s.Beyond {
		if n < s.Mark+2 || n > 65536 || i > 0 && n <= s.Beyond[i-1] {
			return false
		}
		there[n]++
	}
	for i, h := range s.Held {
		if len(h.Key) < 1 || len(h.Key) > 64 || i > 0 && h.Key <= s.Held[i-1].Key || len(h.Versions) == 0 {
			return false
		}
		below := 0
		for j, v := range h.Versions {
			if v.Number < 1 || v.Number > 65536 || j > 0 && v.Number <= h.Versions[j-1].Number || len(v.Val) > 1024 || v.Drop && v.Val != "" {
				return false
			}
			if v.Number > s.Mark {
				if there[v.Number] == 0 {
					return false
				}
				continue
			}
			if below++; below > 1 || v.Drop {
				return false
			}
		}
	}
	return true
}

// plain takes bytes by the chapter's words, without the reader; what is wrong first stays.
type plain struct {
	b     []byte
	wrong api.Errno
}

// refuse keeps the first refusal.
func (p *plain) refuse(is bool, e api.Errno) {
	if is && p.wrong == api.OK {
		p.wrong = e
	}
}

// short: the next short number.
func (p *plain) short() uint64 {
	for i, x := range p.b {
		if i == 9 && x > 1 || i > 0 && x == 0 {
			p.refuse(true, api.ErrForm)
			return 0
		}
		if x < 128 {
			n, size := binary.Uvarint(p.b)
			p.b = p.b[size:]
			return n
		}
	}
	p.refuse(true, api.ErrShort)
	return 0
}

// number: the next one that has a limit.
func (p *plain) number() int {
	n := p.short()
	p.refuse(n > 65536, api.ErrLimit)
	return int(n)
}

// text: the next text of at most so many bytes.
func (p *plain) text(most uint64) string {
	n := p.short()
	p.refuse(n > most, api.ErrLimit)
	p.refuse(n > uint64(len(p.b)), api.ErrShort)
	if p.wrong != api.OK {
		return ""
	}
	s := string(p.b[:n])
	p.b = p.b[n:]
	return s
}

// version: the next one.
func (p *plain) version() api.Version {
	v := api.Version{Number: p.number()}
	p.refuse(len(p.b) == 0, api.ErrShort)
	if p.wrong != api.OK {
		return v
	}
	p.refuse(p.b[0] > 1, api.ErrForm)
	v.Drop = p.b[0] == 1
	p.b = p.b[1:]
	if !v.Drop {
		v.Val = p.text(1024)
	}
	return v
}

// plainly: what Decode must answer.
func plainly(b []byte) (api.Saved, api.Errno) {
	p := &plain{b: b}
	s := api.Saved{Mark: p.number()}
	for n := p.number(); n > 0 && p.wrong == api.OK; n-- {
		s.Beyond = append(s.Beyond, p.number())
	}
	for n := p.number(); n > 0 && p.wrong == api.OK; n-- {
		h := api.Held{Key: p.text(64)}
		for m := p.number(); m > 0 && p.wrong == api.OK; m-- {
			h.Versions = append(h.Versions, p.version())
		}
		s.Held = append(s.Held, h)
	}
	p.refuse(len(p.b) > 0, api.ErrForm)
	p.refuse(!plainMay(s), api.ErrArg)
	if p.wrong != api.OK {
		return api.Saved{}, p.wrong
	}
	return s, api.OK
}

// asPlainly: Decode answers what plainly does; and what it takes Encode tells again.
func asPlainly(t testing.TB, b []byte) api.Errno {
	t.Helper()
	want, e := plainly(b)
	s, f := dump.Decode(b)
	if e != f || !same(s, want) {
		t.Fatalf("Decode(%.400x) = %s, %v, want %s, %v", b, show(s), f, show(want), e)
	}
	if f != api.OK {
		return f
	}
	if e := dump.Check(s); e != api.OK {
		t.Fatalf("Decode took %.400x, Check = %v", b, e)
	}
	if again, e := dump.Encode(s); e != api.OK || !bytes.Equal(again, b) {
		t.Fatalf("Decode took %.400x, Encode tells %.400x, %v", b, again, e)
	}
	return f
}

// home: the shard of a key, by the library's sum.
func home(c api.Config, key string) int {
	h := fnv.New32a()
	h.Write([]byte(key))
	return int(h.Sum32() % uint32(c.Shards))
}

// parted: has Split as many lists as there are shards, each key once, as it is there, in its shard, rising? And does Load take each?
func parted(t testing.TB, c api.Config, s api.Saved) {
	t.Helper()
	l, e := dump.Split(c, s)
	if e != api.OK || len(l) != c.Shards {
		t.Errorf("Split(%v, %s): %d lists, %v", c, show(s), len(l), e)
		return
	}
	want := make([][]api.Held, c.Shards)
	for _, h := range s.Held {
		n := home(c, h.Key)
		want[n] = append(want[n], h)
	}
	for n := range want {
		if !sameHeld(l[n], want[n]) {
			t.Errorf("Split(%v, %s): shard %d: %s", c, show(s), n, show(api.Saved{Held: l[n]}))
		}
		if x, e := shard.Load(l[n]); e != api.OK || !sameHeld(x.All(), want[n]) {
			t.Errorf("Load of shard %d of %s: %v", n, show(s), e)
		}
	}
}

// oneOf: one of these, by the dice.
func oneOf[T any](dice *rand.Rand, l ...T) T { return l[dice.Intn(len(l))] }

// someText: of least bytes, and of less than most more.
func someText(dice *rand.Rand, least, most int) string {
	b := make([]byte, least+dice.Intn(most))
	dice.Read(b)
	return string(b)
}

// someKeys: rising, each once.
func someKeys(dice *rand.Rand, most int) []string {
	var l []string
	for range dice.Intn(most + 1) {
		l = append(l, someText(dice, 1, api.MaxKey>>dice.Intn(7)))
	}
	sort.Strings(l)
	return slices.Compact(l)
}

// someSaved: what may be said, by the dice.
func someSaved(dice *rand.Rand, most int) api.Saved {
	s := api.Saved{Mark: oneOf(dice, 0, 1, 3, dice.Intn(300), dice.Intn(api.MaxLog+1), api.MaxLog-5, api.MaxLog-1, api.MaxLog)}
	for n := s.Mark + 2; n <= api.MaxLog && len(s.Beyond) < most; n += 1 + dice.Intn(3) {
		if dice.Intn(4) == 0 {
			break
		}
		s.Beyond = append(s.Beyond, n)
	}
	version := func(n int) api.Version {
		if n > s.Mark && dice.Intn(3) == 0 {
			return drop(n)
		}
		return set(n, someText(dice, 0, 1+api.MaxVal>>dice.Intn(11)))
	}
	for _, key := range someKeys(dice, most) {
		var l []api.Version
		if s.Mark > 0 && dice.Intn(3) > 0 {
			l = append(l, version(1+dice.Intn(s.Mark)))
		}
		for _, n := range s.Beyond {
			if dice.Intn(3) == 0 {
				l = append(l, version(n))
			}
		}
		if len(l) > 0 {
			s.Held = append(s.Held, held(key, l...))
		}
	}
	return s
}

// P18.1 to P18.4: what may be leads back, and is parted.
func TestDecodeLeadsBack(t *testing.T) {
	dice := rand.New(rand.NewSource(18))
	for range 3000 {
		s := someSaved(dice, 1+dice.Intn(20))
		if !plainMay(s) {
			t.Fatalf("not %s", show(s))
		}
		may(t, s)
		asPlainly(t, bytesOf(s))
		parted(t, sized(1+dice.Intn(16)), s)
	}
}

// spoil changes one thing of what a checkpoint says.
func spoil(dice *rand.Rand, s *api.Saved) {
	near := func(n int) int {
		return oneOf(dice, n-1, n+1, n+2, n-2, 0, -1, s.Mark, s.Mark+1, s.Mark+2, api.MaxLog, api.MaxLog+1)
	}
	switch dice.Intn(8) {
	case 0:
		s.Mark = near(s.Mark)
		return
	case 1:
		if len(s.Beyond) > 0 {
			i := dice.Intn(len(s.Beyond))
			s.Beyond[i] = near(s.Beyond[i])
		} else {
			s.Beyond = []int{near(s.Mark)}
		}
		return
	case 2:
		if len(s.Beyond) > 0 {
			i := dice.Intn(len(s.Beyond))
			s.Beyond = slices.Delete(s.Beyond, i, i+1)
		}
		return
	}
	if len(s.Held) == 0 {
		s.Held = []api.Held{held(oneOf(dice, "", "a", long(64), long(65)), oneOf(dice, set, func(n int, _ string) api.Version { return drop(n) })(near(s.Mark), "x"))}
		return
	}
	h := &s.Held[dice.Intn(len(s.Held))]
	v := &h.Versions[dice.Intn(len(h.Versions))]
	switch dice.Intn(6) {
	case 0:
		h.Key = oneOf(dice, "", "a", h.Key+"\x00", long(64), long(65), s.Held[0].Key)
	case 1:
		v.Number = near(v.Number)
	case 2:
		v.Drop = !v.Drop
	case 3:
		v.Val = oneOf(dice, "", "x", long(1024), long(1025))
	case 4:
		h.Versions = oneOf(dice, nil, h.Versions[1:], append(h.Versions, set(near(s.Mark), "")))
		if len(h.Versions) == 0 {
			h.Versions = []api.Version{}
		}
	case 5:
		i, j := dice.Intn(len(s.Held)), dice.Intn(len(s.Held))
		s.Held[i], s.Held[j] = s.Held[j], s.Held[i]
	}
}

// P18.1 to P18.3: of what may be with one thing changed, or none.
func TestAgainstPlainCheck(t *testing.T) {
	dice := rand.New(rand.NewSource(19))
	seen := map[bool]int{}
	for range 30000 {
		s := clone(someSaved(dice, 1+dice.Intn(5)))
		spoil(dice, &s)
		ok := plainMay(s)
		seen[ok]++
		if ok {
			may(t, s)
		} else {
			mayNot(t, s)
		}
	}
	if seen[true] < 5000 || seen[false] < 5000 {
		t.Errorf("%v", seen)
	}
}

// P18.2, P18.4: all bytes of at most two, and all of few letters up to some length, behind some beginnings.
func TestDecodeOfAllShortBytes(t *testing.T) {
	for a := range 256 {
		for b := range 256 {
			asPlainly(t, []byte{byte(a), byte(b)})
			asPlainly(t, []byte{byte(a), byte(b), 0})
		}
	}
	letters := []byte{0, 1, 2, 3, 'a', 0x80}
	seen := map[api.Errno]int{}
	var all func(b []byte, more int)
	all = func(b []byte, more int) {
		seen[asPlainly(t, b)]++
		if more == 0 {
			return
		}
		for _, x := range letters {
			all(append(b[:len(b):len(b)], x), more-1)
		}
	}
	all(nil, 6)
	all([]byte{0, 1, 2, 1, 1}, 6)
	all([]byte{2, 1, 4, 1, 1, 'a', 2, 1, 0}, 5)
	if seen[api.OK] < 10 || seen[api.ErrArg] < 10 || seen[api.ErrForm] < 10 || seen[api.ErrShort] < 10 {
		t.Errorf("%v", seen)
	}
}

// P18.2, P18.4: bytes of what may be with some of them changed, cut off or put in.
func TestDecodeOfSpoiltBytes(t *testing.T) {
	dice := rand.New(rand.NewSource(20))
	edges := []byte{0, 1, 2, 3, 4, 5, 0x40, 0x41, 0x7f, 0x80, 0x81, 0xff}
	seen := map[api.Errno]int{}
	for range 100000 {
		b := bytesOf(someSaved(dice, 3))
		for range 1 + dice.Intn(2) {
			at := dice.Intn(min(len(b), 25))
			switch dice.Intn(5) {
			case 0:
				b[at] = byte(dice.Intn(256))
			case 1:
				b[at] = oneOf(dice, edges...)
			case 2:
				b = b[:len(b)-dice.Intn(min(len(b), 3))]
			case 3:
				b = slices.Insert(b, at, oneOf(dice, edges...))
			case 4:
				b = slices.Insert(b, at, oneOf(dice, [][]byte{{0x80, 0x80, 4}, {0x81, 0x80, 4}, {0xff, 0xff, 3}, {0x80, 8}, {0x81, 8}}...)...)
			}
		}
		seen[asPlainly(t, b)]++
	}
	for _, e := range []api.Errno{api.OK, api.ErrArg, api.ErrLimit, api.ErrForm, api.ErrShort} {
		if seen[e] < 1000 {
			t.Errorf("%v only %d times", e, seen[e])
		}
	}
}

// P18.4, P0.5: what shards dump at a mark may be said; told as bytes, taken again and parted by other shards, it reads at the mark as it did, and has what is beyond.
func TestDumpsOfShards(t *testing.T) {
	dice := rand.New(rand.NewSource(21))
	for range 300 {
		last := 1 + dice.Intn(40)
		mark := dice.Intn(last + 1)
		var beyond []int
		for n := mark + 2; n <= last; n++ {
			if dice.Intn(2) == 0 {
				beyond = append(beyond, n)
			}
		}
		all := shard.New()
		for n := 1; n <= last; n++ {
			if _, there := slices.BinarySearch(beyond, n); n > mark && !there && dice.Intn(2) == 0 {
				continue // open: some of its writes may be there, which are not saved
			}
			for range 1 + dice.Intn(3) {
				w := api.Write{Key: "k" + strconv.Itoa(dice.Intn(10)), Val: strconv.Itoa(n)}
				if w.Drop = dice.Intn(4) == 0; w.Drop {
					w.Val = ""
				}
				if _, e := all.Install(n, w); e != api.OK {
					t.Fatal(e)
				}
			}
		}
		if dice.Intn(2) == 0 {
			all.Collect(dice.Intn(mark + 1))
		}
		s := says(mark, beyond, all.Dump(mark, beyond)...)
		may(t, s)
		goesOn(t, all, decoded(t, encoded(t, s)), sized(1+dice.Intn(16)))
	}
}

// goesOn: do shards that are loaded read, at the mark, as the one of which the checkpoint was made?
func goesOn(t *testing.T, all *shard.Shard, s api.Saved, c api.Config) {
	t.Helper()
	l, e := dump.Split(c, s)
	if e != api.OK {
		t.Fatal(e)
	}
	var entries []api.Entry
	for _, part := range l {
		x, e := shard.Load(part)
		if e != api.OK {
			t.Fatal(e)
		}
		entries = append(entries, x.Scan("", "", s.Mark)...)
	}
	sort.Slice(entries, func(i, j int) bool { return entries[i].Key < entries[j].Key })
	if want := all.Scan("", "", s.Mark); !slices.Equal(entries, want) {
		t.Fatalf("%s: reads %v, want %v", show(s), entries, want)
	}
}

func FuzzDecode(f *testing.F) {
	f.Add(unhex(f, docBytes))
	f.Add([]byte{0, 0, 1, 1, 'a', 1, 1, 2})
	f.Add([]byte{0x81, 0x80, 4})
	f.Add([]byte{0xff, 0xff, 0xff, 0xff, 0xff, 0xff, 0xff, 0xff, 0xff, 2})
	dice := rand.New(rand.NewSource(22))
	for range 10 {
		f.Add(bytesOf(someSaved(dice, 5)))
	}
	f.Fuzz(func(t *testing.T, b []byte) {
		if asPlainly(t, b) == api.OK {
			s, _ := plainly(b)
			parted(t, sized(1+len(b)%16), s)
		}
	})
}

func FuzzCheck(f *testing.F) {
	f.Add(3, 5, 6, "a", "b", 2, 5, "x", "", false, true)
	f.Add(0, 2, 4, "a", "a", 2, 4, "", "", true, true)
	f.Add(65536, 65537, -1, "", "\xff", 65536, 65537, "x", "y", false, false)
	f.Fuzz(func(t *testing.T, mark, m, n int, a, b string, i, j int, x, y string, p, q bool) {
		v, w := api.Version{Number: i, Val: x, Drop: p}, api.Version{Number: j, Val: y, Drop: q}
		for _, s := range []api.Saved{
			says(mark, []int{m, n}, held(a, v, w), held(b, w)), says(mark, []int{m}, held(a, v, w)), says(mark, []int{m, n}, held(a, v), held(b, w)),
			says(mark, nil, held(a, v)), says(mark, []int{m, n}),
		} {
			if plainMay(s) {
				may(t, s)
			} else {
				mayNot(t, s)
			}
		}
	})
}
