package dump_test

import (
	"bytes"
	"encoding/hex"
	"fmt"
	"math"
	"slices"
	"strings"
	"testing"

	"towpath/api"
	"towpath/dump"
	"towpath/shard"
)

// long: a text of n bytes.
func long(n int) string { return strings.Repeat("v", n) }

// set and drop: a version with a value, and one by which the key goes.
func set(number int, val string) api.Version { return api.Version{Number: number, Val: val} }
func drop(number int) api.Version            { return api.Version{Number: number, Drop: true} }

// held: a key with these versions.
func held(key string, l ...api.Version) api.Held { return api.Held{Key: key, Versions: l} }

// says: what a checkpoint at a mark says, with these numbers beyond it, and these keys.
func says(mark int, beyond []int, l ...api.Held) api.Saved {
	return api.Saved{Mark: mark, Beyond: beyond, Held: l}
}

// at3 is what a checkpoint says at the mark 3, with 5 beyond it, as the chapter's rows do.
func at3(l ...api.Held) api.Saved { return says(3, []int{5}, l...) }

// docSaved: the chapter's S, and its bytes.
func docSaved() api.Saved { return at3(held("a", set(2, "x"), drop(5)), held("b", set(5, ""))) }

const docBytes = "03010502016102020001780501016201050000"

// numbers: from the one to the other, both among them.
func numbers(from, to int) []int {
	var l []int
	for n := from; n <= to; n++ {
		l = append(l, n)
	}
	return l
}

// full: a version of each of these numbers.
func full(l []int) []api.Version {
	var versions []api.Version
	for _, n := range l {
		versions = append(versions, set(n, ""))
	}
	return versions
}

// manyKeys: so many keys, each with one version.
func manyKeys(count int, v api.Version) []api.Held {
	l := make([]api.Held, count)
	for i := range l {
		l[i] = held(fmt.Sprintf("k%06d", i), v)
	}
	return l
}

// unhex: the bytes of this text.
func unhex(t testing.TB, s string) []byte {
	t.Helper()
	b, err := hex.DecodeString(s)
	if err != nil {
		t.Fatal(err)
	}
	return b
}

// show tells what a checkpoint says; of what is long the beginning, so that a message stays short.
func show(s api.Saved) string {
	return fmt.Sprintf("%.400q", fmt.Sprint(s))
}

// sameHeld: these keys with these versions? None and nil are the same.
func sameHeld(a, b []api.Held) bool {
	return slices.EqualFunc(a, b, func(x, y api.Held) bool { return x.Key == y.Key && slices.Equal(x.Versions, y.Versions) })
}

// same: do both say the same?
func same(a, b api.Saved) bool {
	return a.Mark == b.Mark && slices.Equal(a.Beyond, b.Beyond) && sameHeld(a.Held, b.Held)
}

// clone: the same in other memory.
func clone(s api.Saved) api.Saved {
	s.Beyond = slices.Clone(s.Beyond)
	s.Held = slices.Clone(s.Held)
	for i := range s.Held {
		s.Held[i].Versions = slices.Clone(s.Held[i].Versions)
	}
	return s
}

// encoded: the bytes of what may be said.
func encoded(t testing.TB, s api.Saved) []byte {
	t.Helper()
	b, e := dump.Encode(s)
	if e != api.OK {
		t.Fatalf("Encode(%s) = %v", show(s), e)
	}
	return b
}

// decoded: what bytes that are taken say.
func decoded(t testing.TB, b []byte) api.Saved {
	t.Helper()
	s, e := dump.Decode(b)
	if e != api.OK {
		t.Fatalf("Decode(%.400x) = %v", b, e)
	}
	return s
}

// refused: does Decode answer this error, and nothing beside it?
func refused(t testing.TB, b []byte, want api.Errno) {
	t.Helper()
	if s, e := dump.Decode(b); e != want || s.Mark != 0 || s.Beyond != nil || s.Held != nil {
		t.Errorf("Decode(%.400x) = %s, %v, want %v", b, show(s), e, want)
	}
}

// mayNot: do all calls answer ErrArg, and nothing beside it? And does Decode answer of its bytes what the words say?
func mayNot(t testing.TB, s api.Saved) {
	t.Helper()
	if e := dump.Check(s); e != api.ErrArg {
		t.Errorf("Check(%s) = %v", show(s), e)
	}
	if b, e := dump.Encode(s); e != api.ErrArg || b != nil {
		t.Errorf("Encode(%s) = %x, %v", show(s), b, e)
	}
	if l, e := dump.Split(sized(2), s); e != api.ErrArg || l != nil {
		t.Errorf("Split(%s) = %v, %v", show(s), l, e)
	}
	asPlainly(t, bytesOf(s))
}

// may: do all calls take it, and does Decode lead back?
func may(t testing.TB, s api.Saved) {
	t.Helper()
	if e := dump.Check(s); e != api.OK {
		t.Errorf("Check(%s) = %v", show(s), e)
		return
	}
	b := encoded(t, s)
	if !bytes.Equal(b, bytesOf(s)) {
		t.Errorf("Encode(%s) = %.400x, want %.400x", show(s), b, bytesOf(s))
	}
	if again := decoded(t, b); !same(s, again) {
		t.Errorf("Decode(Encode(%s)) = %s", show(s), show(again))
	}
	parted(t, sized(3), s)
}

// sized: a configuration of so many shards.
func sized(shards int) api.Config {
	return api.Config{Lanes: 1, Shards: shards, Window: 1, Queue: 1}
}

// P18.2: the chapter's rows.
func TestExamplesOfEncode(t *testing.T) {
	if b := encoded(t, docSaved()); !bytes.Equal(b, unhex(t, docBytes)) {
		t.Errorf("Encode(S) = %x", b)
	}
	if s := decoded(t, unhex(t, docBytes)); !same(s, docSaved()) {
		t.Errorf("Decode = %s", show(s))
	}
	if e := dump.Check(docSaved()); e != api.OK {
		t.Errorf("Check(S) = %v", e)
	}
	if b := encoded(t, api.Saved{}); !bytes.Equal(b, []byte{0, 0, 0}) {
		t.Errorf("Encode of nothing = %x", b)
	}
	if s := decoded(t, []byte{0, 0, 0}); !same(s, api.Saved{}) {
		t.Errorf("Decode(00 00 00) = %s", show(s))
	}
}

// P18.1: the chapter's row.
func TestExamplesOfCheck(t *testing.T) {
	for _, s := range []api.Saved{
		says(3, []int{4}), says(3, []int{5, 5}), says(-1, []int{5}), says(-1, nil), says(3, []int{65537}),
		at3(held("b", set(1, "x")), held("a", set(1, "x"))), at3(held("a")),
		at3(held("a", set(1, "x"), set(2, "y"))), at3(held("a", drop(2))), at3(held("a", set(4, "x"))), at3(held("a", set(7, "x"))),
	} {
		mayNot(t, s)
	}
}

// P18.2: the chapter's row.
func TestExamplesOfDecode(t *testing.T) {
	for _, c := range []struct {
		b string
		e api.Errno
	}{
		{"", api.ErrShort}, {"0000", api.ErrShort}, {"00000000", api.ErrForm}, {"0000010000", api.ErrArg},
		{"0000010161010102", api.ErrForm}, {"818004", api.ErrLimit}, {"00010100", api.ErrArg},
	} {
		refused(t, unhex(t, c.b), c.e)
	}
	refused(t, nil, api.ErrShort)
}

// P18.3: the chapter's rows.
func TestExamplesOfSplit(t *testing.T) {
	l, e := dump.Split(sized(2), docSaved())
	if e != api.OK || len(l) != 2 || !sameHeld(l[0], docSaved().Held[:1]) || !sameHeld(l[1], docSaved().Held[1:]) {
		t.Errorf("Split(c2, S) = %v, %v", l, e)
	}
	if l, e := dump.Split(api.Config{}, docSaved()); e != api.ErrConfig || l != nil {
		t.Errorf("Split(the zero configuration, S) = %v, %v", l, e)
	}
	if l, e := dump.Split(sized(2), api.Saved{Mark: -1}); e != api.ErrArg || l != nil {
		t.Errorf("Split(c2, Mark -1) = %v, %v", l, e)
	}
}

// P18.1, P18.2, P18.4: what may be, at the edges that the document names.
func TestWhatMayBe(t *testing.T) {
	var every strings.Builder
	for i := range 256 {
		every.WriteByte(byte(i))
	}
	for _, s := range []api.Saved{
		{}, says(1, nil), says(127, nil), says(128, nil), says(api.MaxLog-1, nil), says(api.MaxLog, nil),
		says(0, []int{2}), says(0, []int{3}), says(3, []int{5, 6, 7}), says(3, []int{5, 127, 128, 65535, 65536}), says(api.MaxLog-2, []int{api.MaxLog}),
		says(0, numbers(2, api.MaxLog)), says(0, nil, []api.Held{}...), says(0, []int{}),
		says(0, []int{2}, held("a", set(2, "x"))), says(0, []int{2}, held("a", drop(2))),
		says(1, nil, held("a", set(1, ""))), says(9, nil, held("a", set(1, "x")), held("b", set(9, "y"))),
		at3(held("a", set(3, "x"))), at3(held("a", set(1, "x"), set(5, "y"))), at3(held("a", set(3, "x"), drop(5))), at3(held("a", drop(5))),
		says(3, []int{5, 7, 9}, held("a", set(2, "x"), drop(5), set(7, "y"), drop(9)), held("b", set(5, ""), drop(9)), held("c", set(7, "z"))),
		says(3, []int{5, 7}, held("a", set(1, "x"))), // one beyond it may have no writes that are held
		says(api.MaxLog, nil, held("a", set(api.MaxLog, "x"))),
		says(api.MaxLog-2, []int{api.MaxLog}, held("a", set(1, "x"), drop(api.MaxLog))),
		at3(held(long(api.MaxKey-1), set(1, "x")), held(long(api.MaxKey), set(1, "x"))),
		at3(held("a", set(1, long(127)), set(5, long(128))), held("b", set(1, long(api.MaxVal-1)), set(5, long(api.MaxVal)))),
		at3(held("\x00", set(1, "\x00")), held("\x00\x00", set(1, "")), held("A", set(1, "")), held("a", set(1, "")), held("aa", set(1, "")), held("b", set(1, "")), held("\xff", set(1, "\xff\xfe"))),
		at3(held(every.String()[:64], set(1, every.String())), held(every.String()[192:], set(5, every.String()))),
		says(1, numbers(3, api.MaxLog), held("a", full(append([]int{1}, numbers(3, api.MaxLog)...))...), held("b", drop(3))),
		says(1, nil, manyKeys(127, set(1, "x"))...), says(1, nil, manyKeys(128, set(1, "x"))...), says(1, nil, manyKeys(api.MaxLog, set(1, ""))...),
	} {
		may(t, s)
	}
}

// P18.1: what may not be, one thing wrong at a time.
func TestWhatMayNotBe(t *testing.T) {
	good, last := held("a", set(1, "x")), held("z", set(5, "z"))
	for _, s := range []api.Saved{
		says(-1, nil), says(math.MinInt, nil), says(api.MaxLog+1, nil), says(math.MaxInt, nil), says(math.MaxInt-1, []int{math.MaxInt}), says(1<<32, nil), says(-1<<32, nil),
		says(math.MaxInt, []int{math.MinInt + 1}), says(-1, []int{1}), says(-2, nil, held("a", set(1, "x"))),
		says(0, []int{0}), says(0, []int{1}), says(3, []int{3}), says(3, []int{-5}), says(3, []int{math.MinInt}), says(3, []int{math.MaxInt}), says(3, []int{1<<32 + 5}),
		says(3, []int{6, 5}), says(3, []int{5, 6, 6}), says(3, []int{5, 7, 6}), says(3, []int{5, 4}), says(3, []int{5, api.MaxLog + 1}), says(3, []int{5, math.MaxInt, 6}),
		says(3, []int{math.MaxInt, math.MinInt}), says(api.MaxLog-1, []int{api.MaxLog}), says(api.MaxLog-1, []int{api.MaxLog + 1}), says(api.MaxLog, []int{api.MaxLog + 2}), says(api.MaxLog, []int{api.MaxLog}),
		at3(good, good), at3(good, last, held("b", set(1, "x"))), at3(held("aa", set(1, "x")), good), at3(held("a", set(1, "x")), held("A", set(1, "x"))),
		at3(held("", set(1, "x"))), at3(held(long(api.MaxKey+1), set(1, "x"))), at3(held(long(100000), set(1, "x"))),
		says(0, nil, held("a")), says(0, nil, held("")), at3(good, held("b"), last),
	} {
		mayNot(t, s)
	}
	for _, l := range [][]api.Version{
		{}, {set(0, "x")}, {set(-1, "x")}, {set(math.MinInt, "x")}, {set(math.MaxInt, "x")}, {set(api.MaxLog+1, "x")}, {set(4, "x")}, {set(6, "x")}, {set(7, "x")}, {drop(4)}, {drop(7)},
		{set(1, "x"), set(1, "y")}, {set(2, "x"), set(1, "y")}, {set(5, "x"), set(5, "y")}, {set(5, "x"), set(2, "y")}, {set(1, "x"), set(2, "y"), set(5, "z")}, {set(1, "x"), set(3, "y")},
		{drop(1)}, {drop(3)}, {drop(3), set(5, "x")}, {drop(1), drop(5)}, {set(1, "x"), drop(2)}, {drop(1), set(2, "x")},
		{set(1, "x"), set(4, "y")}, {set(1, "x"), set(5, "y"), set(6, "z")}, {set(1, "x"), set(4, "y"), set(5, "z")}, {set(5, "y"), drop(api.MaxLog)},
		{set(1, long(api.MaxVal+1))}, {set(5, long(api.MaxVal+1))}, {{Number: 5, Val: "x", Drop: true}}, {{Number: 1, Val: "x", Drop: true}},
		{set(1, "x"), {Number: 5, Val: "x", Drop: true}}, {set(1, "x"), set(5, long(100000))}, {set(0, "x"), set(1, "y")}, {set(-4, "x"), set(5, "y")},
	} {
		mayNot(t, at3(held("b", l...)))
		mayNot(t, at3(good, held("b", l...)))
		mayNot(t, at3(held("b", l...), last))
		mayNot(t, at3(good, held("b", l...), last))
	}
	mayNot(t, says(3, nil, last))
	mayNot(t, says(3, []int{7}, last))
	mayNot(t, says(4, []int{6}, held("a", set(4, "x"), set(5, "y"))))
	mayNot(t, says(0, nil, good))
}

// P18.1: all marks near the ends, and with each all numbers beyond them, and all of one version.
func TestCheckOfAllNumbers(t *testing.T) {
	want := func(ok bool) api.Errno {
		if ok {
			return api.OK
		}
		return api.ErrArg
	}
	near := append(numbers(-3, 6), numbers(api.MaxLog-4, api.MaxLog+3)...)
	for _, mark := range near {
		marked := mark >= 0 && mark <= 65536
		if e := dump.Check(says(mark, nil)); e != want(marked) {
			t.Errorf("the mark %d: %v", mark, e)
		}
		for _, n := range near {
			behind := marked && n >= mark+2 && n <= 65536
			if e := dump.Check(says(mark, []int{n})); e != want(behind) {
				t.Errorf("%d beyond %d: %v", n, mark, e)
			}
			if e := dump.Check(says(mark, nil, held("a", set(n, "x")))); e != want(marked && n >= 1 && n <= mark) {
				t.Errorf("the version %d at %d: %v", n, mark, e)
			}
			for _, m := range near {
				if e := dump.Check(says(mark, []int{n}, held("a", set(m, "x")))); e != want(behind && (m >= 1 && m <= mark || m == n)) {
					t.Errorf("%d beyond %d, the version %d: %v", n, mark, m, e)
				}
				if e := dump.Check(says(mark, []int{n}, held("a", drop(m)))); e != want(behind && m == n) {
					t.Errorf("%d beyond %d, %d dropped: %v", n, mark, m, e)
				}
				if e := dump.Check(says(mark, []int{n, m})); e != want(behind && m > n && m <= 65536) {
					t.Errorf("%d and %d beyond %d: %v", n, m, mark, e)
				}
			}
		}
	}
}

// P18.1: all lengths of a key and of a value.
func TestCheckOfAllLengths(t *testing.T) {
	for n := range 200 {
		key, val := at3(held(long(n), set(1, ""))), at3(held("a", set(5, long(1024+n-100))))
		if ok := dump.Check(key) == api.OK; ok != (n >= 1 && n <= 64) {
			t.Errorf("a key of %d bytes: %v", n, ok)
		}
		if ok := dump.Check(val) == api.OK; ok != (n <= 100) {
			t.Errorf("a value of %d bytes: %v", 1024+n-100, ok)
		}
		gone := at3(held("a", api.Version{Number: 5, Val: long(n), Drop: true}))
		if ok := dump.Check(gone) == api.OK; ok != (n == 0) {
			t.Errorf("a Drop with %d bytes: %v", n, ok)
		}
	}
}

// P18.2: the first refusal counts, whatever stands behind it.
func TestDecodeRefusals(t *testing.T) {
	most := "ffffffffffffffffff01"   // 2^64 - 1
	noForm := "ffffffffffffffffff02" // no short number
	for _, c := range []struct {
		b string
		e api.Errno
	}{
		// the mark
		{"80", api.ErrShort}, {"8000", api.ErrForm}, {noForm, api.ErrForm}, {most, api.ErrLimit},
		{"808004", api.ErrShort}, {"ffff03", api.ErrShort}, {"818004" + "8000", api.ErrLimit}, {"818004" + "0000", api.ErrLimit}, // 65536, 65535, 65537
		{"8080808010", api.ErrLimit}, {"80808080808080808001", api.ErrLimit}, // 2^32, 2^63
		// how many are beyond
		{"00", api.ErrShort}, {"0080", api.ErrShort}, {"008000", api.ErrForm}, {"00" + noForm, api.ErrForm}, {"00" + most, api.ErrLimit},
		{"00818004", api.ErrLimit}, {"00818004" + "8000", api.ErrLimit}, {"00808004", api.ErrShort}, {"008080808010", api.ErrLimit}, {"008180808010", api.ErrLimit},
		// those beyond
		{"0001", api.ErrShort}, {"00018000", api.ErrForm}, {"000180", api.ErrShort}, {"0001818004", api.ErrLimit}, {"0001808004", api.ErrShort}, {"0001" + most, api.ErrLimit},
		{"000202", api.ErrShort}, {"0002028000", api.ErrForm}, {"000202818004", api.ErrLimit}, {"0002818004" + "8000", api.ErrLimit}, {"0002" + "8000" + "818004", api.ErrForm},
		{"000101" + "818004", api.ErrLimit}, {"00020505" + "8000", api.ErrForm}, {"0002050500", api.ErrArg}, {"0002060500", api.ErrArg}, {"00010000", api.ErrArg},
		// how many are held
		{"000080", api.ErrShort}, {"00008000", api.ErrForm}, {"0000818004", api.ErrLimit}, {"0000818004" + "0141", api.ErrLimit}, {"0000808004", api.ErrShort}, {"0000" + most, api.ErrLimit},
		{"00008080808010", api.ErrLimit}, {"00008180808010", api.ErrLimit},
		// the key
		{"000001", api.ErrShort}, {"00000180", api.ErrShort}, {"0000018000", api.ErrForm}, {"00000141", api.ErrLimit}, {"00000140", api.ErrShort}, {"0000010261", api.ErrShort}, {"000001" + most, api.ErrLimit},
		{"000001" + "8180808010", api.ErrLimit},
		// how many versions
		{"0000010161", api.ErrShort}, {"000001016180", api.ErrShort}, {"00000101618000", api.ErrForm}, {"0000010161818004", api.ErrLimit}, {"0000010161808004", api.ErrShort}, {"0000010161" + most, api.ErrLimit},
		{"000001016100", api.ErrArg}, {"00000101618080808010", api.ErrLimit},
		{"0000010000" + "00", api.ErrForm}, {"00000100818004", api.ErrLimit}, // an empty key is refused last
		// a version's number
		{"000001016101", api.ErrShort}, {"00000101610180", api.ErrShort}, {"0000010161018000", api.ErrForm}, {"000001016101818004", api.ErrLimit}, {"000001016101818004" + "02", api.ErrLimit},
		{"000001016101808004", api.ErrShort}, {"000001016101" + most, api.ErrLimit}, {"000001016101" + "8180808010", api.ErrLimit},
		// the byte
		{"00000101610101", api.ErrShort}, {"000001016101010205", api.ErrForm}, {"00000101610101ff", api.ErrForm}, {"00000101610101" + "80", api.ErrForm}, {"00000101610100" + "02", api.ErrForm},
		{"0000010161010101", api.ErrArg}, {"000001016101010100", api.ErrForm},
		// the value
		{"0000010161010100", api.ErrShort}, {"000001016101010080", api.ErrShort}, {"00000101610101008000", api.ErrForm}, {"00000101610101008108", api.ErrLimit}, {"00000101610101008008", api.ErrShort},
		{"0000010161010100" + most, api.ErrLimit}, {"0000010161010100" + "0278", api.ErrShort}, {"0000010161010100" + "8180808010", api.ErrLimit},
		// the next version, the next key
		{"01000101610201000178", api.ErrShort}, {"01000101610201000178" + "8000", api.ErrForm}, {"01000101610201000178" + "818004", api.ErrLimit}, {"01000101610201000178" + "0202", api.ErrForm},
		{"01000201610101000178", api.ErrShort}, {"01000201610101000178" + "41", api.ErrLimit}, {"01000201610101000178" + "0162", api.ErrShort}, {"01000201610101000178" + "8000", api.ErrForm},
		// what is left counts ahead of what may not be
		{"0001010000", api.ErrForm}, {"03010502016102020001780501016201050000" + "00", api.ErrForm}, {"00000100" + "0080", api.ErrForm},
		{"0100020162010100000161010100" + "00", api.ErrArg}, {"0100020162010100000161010100" + "0000", api.ErrForm},
		// what may not be
		{"030104" + "00", api.ErrArg}, {"0302050500", api.ErrArg}, {"808004" + "01" + "808004" + "00", api.ErrArg}, {"0300" + "010161" + "01" + "0201", api.ErrArg},
		{"0300" + "010161" + "01" + "000000", api.ErrArg}, {"0300" + "010161" + "01" + "040000", api.ErrArg}, {"0300" + "010161" + "02" + "010000" + "020000", api.ErrArg},
	} {
		refused(t, unhex(t, c.b), c.e)
	}
}

// P18.2: all values of the byte behind a version's number.
func TestDecodeOfAllDropBytes(t *testing.T) {
	for x := range 256 {
		b := []byte{0, 1, 2, 1, 1, 'a', 1, 2, byte(x)}
		switch x {
		case 0:
			refused(t, b, api.ErrShort)
			if s := decoded(t, append(b, 1, 'v')); !same(s, says(0, []int{2}, held("a", set(2, "v")))) {
				t.Errorf("with a value: %s", show(s))
			}
		case 1:
			if s := decoded(t, b); !same(s, says(0, []int{2}, held("a", drop(2)))) {
				t.Errorf("dropped: %s", show(s))
			}
		default:
			refused(t, b, api.ErrForm)
			refused(t, append(b, 0), api.ErrForm)
		}
	}
}

// P18.2: what is one too long, or one too many, all of it there.
func TestDecodeOfOneTooMany(t *testing.T) {
	for _, c := range []struct {
		s api.Saved
		e api.Errno
	}{
		{at3(held(long(65), set(1, "x"))), api.ErrLimit},
		{at3(held("a", set(1, long(1025)))), api.ErrLimit},
		{at3(held("a", set(5, long(1025)))), api.ErrLimit},
		{says(65537, nil), api.ErrLimit},
		{says(3, []int{65537}), api.ErrLimit},
		{at3(held("a", set(65537, ""))), api.ErrLimit},
		{at3(held("a", drop(65537))), api.ErrLimit},
		{says(0, numbers(0, 65536)), api.ErrLimit},
		{says(0, numbers(1, 65536)), api.ErrArg},
		{at3(held("a", full(numbers(0, 65536))...)), api.ErrLimit},
		{at3(held("a", full(numbers(1, 65536))...)), api.ErrArg},
		{at3(held("", set(1, "x"))), api.ErrArg},
	} {
		refused(t, bytesOf(c.s), c.e)
		mayNot(t, c.s)
	}
}

// P18.1 to P18.3: no word bounds how many keys are held, so more than MaxLog of them may be; the bytes of these Decode refuses.
func TestMoreKeysThanMaxLog(t *testing.T) {
	s := says(1, nil, manyKeys(api.MaxLog+1, set(1, ""))...)
	if e := dump.Check(s); e != api.OK {
		t.Errorf("Check = %v", e)
	}
	b := encoded(t, s)
	if !bytes.Equal(b, bytesOf(s)) {
		t.Errorf("Encode = %.100x", b)
	}
	refused(t, b, api.ErrLimit)
	parted(t, sized(16), s)
}

// P18.4: the bytes of none are the beginning of another one's: cut anywhere they end too early, and nothing may stand behind them.
func TestNoneBeginsAnother(t *testing.T) {
	for _, s := range []api.Saved{{}, docSaved(), says(300, []int{302, 400}, held(long(64), set(7, long(200)), drop(302)), held("w", drop(400)))} {
		b := encoded(t, s)
		for n := range b {
			refused(t, b[:n:n], api.ErrShort)
			refused(t, b[:n], api.ErrShort) // what stands in the spare room is not read
		}
		for more := range 256 {
			refused(t, append(slices.Clone(b), byte(more)), api.ErrForm)
		}
	}
}

// P18.3: the configuration is refused first, and nothing but its shards counts.
func TestSplitOfConfigurations(t *testing.T) {
	for _, c := range []api.Config{
		{}, sized(0), sized(17), sized(-1), sized(math.MaxInt), sized(math.MinInt),
		{Lanes: 0, Shards: 2, Window: 1, Queue: 1}, {Lanes: 17, Shards: 2, Window: 1, Queue: 1},
		{Lanes: 1, Shards: 2, Window: 0, Queue: 1}, {Lanes: 1, Shards: 2, Window: 65, Queue: 1},
		{Lanes: 1, Shards: 2, Window: 1, Queue: 0}, {Lanes: 1, Shards: 2, Window: 1, Queue: 17},
	} {
		for _, s := range []api.Saved{{}, docSaved(), {Mark: -1}, at3(held("a"))} {
			if l, e := dump.Split(c, s); e != api.ErrConfig || l != nil {
				t.Errorf("Split(%v, %s) = %v, %v", c, show(s), l, e)
			}
		}
	}
	for shards := 1; shards <= api.MaxShards; shards++ {
		parted(t, sized(shards), api.Saved{})
		parted(t, sized(shards), docSaved())
		parted(t, api.Config{Lanes: 16, Shards: shards, Window: 64, Queue: 16}, says(4, []int{6}, manyKeys(300, set(6, "x"))...))
	}
}

// P18.3: with one shard all keys are in it; with more none of many keys' shards is empty.
func TestSplitSpreads(t *testing.T) {
	s := says(1, nil, manyKeys(500, set(1, "x"))...)
	for shards := 1; shards <= api.MaxShards; shards++ {
		l, e := dump.Split(sized(shards), s)
		if e != api.OK || len(l) != shards {
			t.Fatalf("%d shards: %d lists, %v", shards, len(l), e)
		}
		for n, part := range l {
			if len(part) == 0 || shards == 1 && !sameHeld(part, s.Held) {
				t.Errorf("%d shards: %d keys in %d", shards, len(part), n)
			}
		}
	}
}

// spare: what the chapter's S says, and more in the spare room of each of its lists; and all of that room.
func spare() (api.Saved, func() api.Saved) {
	beyond := []int{5, 77, 78}
	a := []api.Version{set(2, "x"), drop(5), set(90, "spare")}
	b := []api.Version{set(5, ""), set(91, "spare")}
	l := []api.Held{held("a", a[:2]...), held("b", b[:1]...), held("c", set(92, "spare"))}
	return api.Saved{Mark: 3, Beyond: beyond[:1], Held: l[:2]}, func() api.Saved {
		return says(3, beyond, held(l[0].Key, a...), held(l[1].Key, b...), l[2])
	}
}

// R4: what is handed in is not changed, its spare room neither.
func TestNothingHandedInIsChanged(t *testing.T) {
	s, room := spare()
	was := clone(room())
	dump.Check(s)
	encoded(t, s)
	if l, e := dump.Split(sized(2), s); e != api.OK || !sameHeld(l[0], docSaved().Held[:1]) {
		t.Errorf("Split = %v, %v", l, e)
	}
	if !same(room(), was) || !same(s, docSaved()) {
		t.Errorf("changed: %s", show(room()))
	}
	whole := append(unhex(t, docBytes), 7, 7, 7)
	b := whole[:len(whole)-3]
	if !same(decoded(t, b), docSaved()) || !bytes.Equal(whole, append(unhex(t, docBytes), 7, 7, 7)) {
		t.Errorf("changed: %x", whole)
	}
}

// scribble writes over all memory of a list, its spare room too.
func scribble[T any](l []T, x T) {
	l = l[:cap(l)]
	for i := range l {
		l[i] = x
	}
}

// scribbleHeld writes over all memory of keys with versions.
func scribbleHeld(l []api.Held) {
	for _, h := range l {
		scribble(h.Versions, set(-9, "scribble"))
	}
	scribble(l, held("scribble"))
}

// R4: what was handed in may be changed later, and nothing of it shows in an answer.
func TestAnswersKeepNothing(t *testing.T) {
	s := docSaved()
	b := encoded(t, s)
	l, _ := dump.Split(sized(1), s)
	scribble(s.Beyond, -9)
	scribbleHeld(s.Held)
	if !bytes.Equal(b, unhex(t, docBytes)) || !sameHeld(l[0], docSaved().Held) {
		t.Errorf("a later change shows: %x, %v", b, l)
	}
	d := decoded(t, b)
	scribble(b, 0xee)
	if !same(d, docSaved()) {
		t.Errorf("a later change shows: %s", show(d))
	}
}

// R4, R5: answers share no memory with one another, nor with what was handed in; each hangs on what was given alone.
func TestAnswersAreNewMemory(t *testing.T) {
	s, bytes1 := docSaved(), unhex(t, docBytes)
	for range 3 {
		b := encoded(t, s)
		if !bytes.Equal(b, bytes1) {
			t.Fatalf("Encode = %x", b)
		}
		d := decoded(t, bytes1)
		if !same(d, docSaved()) {
			t.Fatalf("Decode = %s", show(d))
		}
		l, e := dump.Split(sized(1), s)
		if e != api.OK || !sameHeld(l[0], docSaved().Held) {
			t.Fatalf("Split = %v, %v", l, e)
		}
		scribble(b, 0xee)
		scribble(d.Beyond, -9)
		scribbleHeld(d.Held)
		scribbleHeld(l[0])
		scribble(l, nil)
	}
	if !same(s, docSaved()) {
		t.Errorf("an answer's change shows in what was handed in: %s", show(s))
	}
}

// R4: no two lists within one answer share memory.
func TestListsOfOneAnswer(t *testing.T) {
	s := says(3, []int{5, 7}, manyKeys(40, set(5, "x"))...)
	apart := func(all []api.Held) {
		t.Helper()
		for i, h := range all {
			for _, g := range all[i+1:] {
				if !slices.Equal(g.Versions, []api.Version{set(5, "x")}) {
					t.Fatalf("%s: %v", g.Key, g.Versions)
				}
			}
			scribble(h.Versions, set(-9, "scribble"))
		}
	}
	d := decoded(t, encoded(t, s))
	scribble(d.Beyond, -9)
	apart(d.Held)
	l, _ := dump.Split(sized(4), s)
	var all []api.Held
	for n := range l {
		all = append(all, l[n]...)
		before := len(l[(n+1)%4])
		scribble(l[n], held("scribble"))
		if next := l[(n+1)%4]; n < 3 && (len(next) != before || next[0].Key == "scribble") {
			t.Fatalf("shard %d shows in the next one", n)
		}
	}
	apart(all)
}

// R4: one list that is handed in twice is told apart in the answer.
func TestSharedVersionsHandedIn(t *testing.T) {
	l := []api.Version{set(1, "x"), set(5, "y")}
	s := at3(held("a", l...), held("b", l...))
	parts, e := dump.Split(sized(1), s)
	if e != api.OK {
		t.Fatal(e)
	}
	scribble(parts[0][0].Versions, drop(9))
	if !slices.Equal(parts[0][1].Versions, l) || l[0] != set(1, "x") {
		t.Errorf("%v, %v", parts[0][1], l)
	}
}

// R4: nil and none are the same.
func TestNilAndNone(t *testing.T) {
	none := api.Saved{Mark: 7, Beyond: make([]int, 0, 4), Held: make([]api.Held, 0, 4)}
	if a, b := encoded(t, says(7, nil)), encoded(t, none); !bytes.Equal(a, []byte{7, 0, 0}) || !bytes.Equal(a, b) {
		t.Errorf("%x, %x", a, b)
	}
	mayNot(t, at3(api.Held{Key: "a", Versions: make([]api.Version, 0, 3)}))
	refused(t, []byte{}, api.ErrShort)
	parted(t, sized(2), none)
}

// R1: a checkpoint with much in it is split and told in no time that grows with its square.
func TestMuch(t *testing.T) {
	s := says(0, numbers(2, api.MaxLog), manyKeys(20000, drop(2))...)
	s.Held = append(s.Held, held("z", full(numbers(2, api.MaxLog))...))
	may(t, s)
}

// P18.4: chapter 9's Load takes each list of Split, and has just that.
func TestLoadTakesEach(t *testing.T) {
	l, e := dump.Split(sized(2), docSaved())
	if e != api.OK {
		t.Fatal(e)
	}
	for n, part := range l {
		s, e := shard.Load(part)
		if e != api.OK || !sameHeld(s.All(), part) {
			t.Errorf("shard %d: %v", n, e)
		}
	}
}
