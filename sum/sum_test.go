package sum_test

import (
	"bytes"
	"hash/crc32"
	"hash/fnv"
	"math"
	"math/rand"
	"slices"
	"testing"

	"towpath/sum"
)

// moreBitByBit: what P3.1 asks, in its own words.
func moreBitByBit(s uint32, b []byte) uint32 {
	c := s ^ 0xffffffff
	for _, x := range b {
		c ^= uint32(x)
		for range 8 {
			if c%2 == 1 {
				c = c/2 ^ 0x82f63b78
			} else {
				c = c / 2
			}
		}
	}
	return c ^ 0xffffffff
}

// hashByteByByte: what P3.2 asks, in 64 bits that are cut to 32.
func hashByteByByte(key []byte) uint32 {
	h := uint64(2166136261)
	for _, x := range key {
		h = (h ^ uint64(x)) * 16777619 % (1 << 32)
	}
	return uint32(h)
}

// starts: sums behind which more bytes come.
func starts() []uint32 {
	return []uint32{0, 1, 7, 255, 256, 1 << 31, 0x82f63b78, 0xe3069283, 0x12345678, math.MaxUint32 - 1, math.MaxUint32}
}

// row: n bytes by the dice.
func row(dice *rand.Rand, n int) []byte {
	b := make([]byte, n)
	dice.Read(b)
	return b
}

// oneByOne: n bytes 0, 1, 2, ..
func oneByOne(n int) []byte {
	b := make([]byte, n)
	for i := range b {
		b[i] = byte(i)
	}
	return b
}

func checkMore(t *testing.T, s uint32, b []byte) {
	t.Helper()
	if got, want := sum.More(s, b), moreBitByBit(s, b); got != want {
		t.Errorf("More(%#x, %x) = %#x; want %#x", s, b, got, want)
	}
}

func checkCRC(t *testing.T, b []byte) {
	t.Helper()
	if got, want := sum.CRC(b), moreBitByBit(0, b); got != want {
		t.Errorf("CRC(%x) = %#x; want %#x", b, got, want)
	}
}

// P3.1: numbers that are written out: the chapter's, and those that are known of CRC-32C.
func TestCRCExamples(t *testing.T) {
	down := oneByOne(32)
	slices.Reverse(down)
	for _, c := range []struct {
		b []byte
		s uint32
	}{
		{nil, 0},
		{[]byte{}, 0},
		{[]byte("123456789"), 0xe3069283},
		{make([]byte, 32), 0x8a9136aa},
		{bytes.Repeat([]byte{255}, 32), 0x62a8ab43},
		{oneByOne(32), 0x46dd794e},
		{down, 0x113fdb5c},
		{[]byte("a"), 0xc1d04330},
		{[]byte{0}, 0x527d5351},
		{[]byte{255}, 0xff000000},
	} {
		if s := sum.CRC(c.b); s != c.s {
			t.Errorf("CRC(%x) = %#x; want %#x", c.b, s, c.s)
		}
	}
}

// P3.1
func TestMoreExamples(t *testing.T) {
	for _, c := range []struct {
		s    uint32
		b    string
		want uint32
	}{
		{sum.CRC([]byte("1234")), "56789", 0xe3069283},
		{0, "123456789", 0xe3069283},
		{0xe3069283, "", 0xe3069283},
		{7, "", 7},
		{math.MaxUint32, "\x00\x00", math.MaxUint32}, // nothing to shift but bits that are 0
		{math.MaxUint32, "\x80", ^uint32(0x82f63b78)},
	} {
		if s := sum.More(c.s, []byte(c.b)); s != c.want {
			t.Errorf("More(%#x, %q) = %#x; want %#x", c.s, c.b, s, c.want)
		}
	}
}

// P3.1: no bytes leave a sum as it is, be the list nil or empty.
func TestMoreOfNoBytes(t *testing.T) {
	for _, s := range starts() {
		for _, none := range [][]byte{nil, {}, make([]byte, 0, 8)} {
			if got := sum.More(s, none); got != s {
				t.Errorf("More(%#x, none) = %#x", s, got)
			}
		}
	}
}

// P3.1: each byte, behind each sum.
func TestMoreOfEachByte(t *testing.T) {
	for x := range 256 {
		b := []byte{byte(x)}
		checkCRC(t, b)
		for _, s := range starts() {
			checkMore(t, s, b)
		}
	}
}

// P3.1: each byte behind each other one, so that each byte's sum is met behind each other one's.
func TestCRCOfTwoBytes(t *testing.T) {
	for x := range 1 << 16 {
		checkCRC(t, []byte{byte(x), byte(x >> 8)})
	}
}

// P3.1: rows of all lengths, against the words and against the library's CRC-32C.
func TestMoreOfRows(t *testing.T) {
	dice := rand.New(rand.NewSource(31))
	table := crc32.MakeTable(crc32.Castagnoli)
	for n := range 300 {
		b := row(dice, n)
		checkCRC(t, b)
		for _, s := range append(starts(), dice.Uint32()) {
			checkMore(t, s, b)
			if got, want := sum.More(s, b), crc32.Update(s, table, b); got != want {
				t.Errorf("More(%#x, %x) = %#x; the library says %#x", s, b, got, want)
			}
		}
	}
	long := row(dice, 1<<20)
	if got, want := sum.CRC(long), crc32.Checksum(long, table); got != want {
		t.Errorf("CRC of 2^20 bytes = %#x; the library says %#x", got, want)
	}
}

// P3.1: CRC is More behind 0, and behind no other sum.
func TestCRCIsMoreBehindNought(t *testing.T) {
	dice := rand.New(rand.NewSource(32))
	for n := range 100 {
		b := row(dice, n)
		if sum.CRC(b) != sum.More(0, b) {
			t.Errorf("CRC(%x) is not More(0, ..)", b)
		}
		for _, s := range starts()[1:] {
			if sum.CRC(b) == sum.More(s, b) {
				t.Errorf("CRC(%x) is More(%#x, ..)", b, s)
			}
		}
	}
}

// P3.3: a row that is cut at any two places, with no bytes between the pieces as well.
func TestMoreOfPieces(t *testing.T) {
	dice := rand.New(rand.NewSource(33))
	for _, n := range []int{0, 1, 2, 3, 9, 32, 64, 65} {
		b := row(dice, n)
		whole := sum.CRC(b)
		for i := range n + 1 {
			if s := sum.More(sum.CRC(b[:i]), b[i:]); s != whole {
				t.Errorf("%x cut at %d: %#x; want %#x", b, i, s, whole)
			}
			if s := sum.More(sum.More(sum.CRC(b[:i]), nil), b[i:]); s != whole {
				t.Errorf("%x cut at %d, and none between: %#x; want %#x", b, i, s, whole)
			}
			for j := i; j <= n; j++ {
				if s := sum.More(sum.More(sum.More(0, b[:i]), b[i:j]), b[j:]); s != whole {
					t.Errorf("%x cut at %d and %d: %#x; want %#x", b, i, j, s, whole)
				}
			}
		}
	}
}

// P3.3: the same behind any sum, and byte by byte.
func TestMoreByteByByte(t *testing.T) {
	dice := rand.New(rand.NewSource(34))
	b := row(dice, 100)
	for _, s := range starts() {
		one := s
		for i := range b {
			one = sum.More(one, b[i:i+1])
			if whole := sum.More(s, b[:i+1]); one != whole {
				t.Errorf("%x behind %#x: byte by byte %#x, at once %#x", b[:i+1], s, one, whole)
			}
		}
	}
}

// spoil: a copy with the pattern's bits turned round from the bit at on, each byte's lowest bit first; false if the row ends before them.
func spoil(b []byte, at int, pattern uint32) ([]byte, bool) {
	c := bytes.Clone(b)
	for i := range 32 {
		if pattern>>i&1 == 0 {
			continue
		}
		if at+i >= 8*len(b) {
			return nil, false
		}
		c[(at+i)/8] ^= 1 << ((at + i) % 8)
	}
	return c, true
}

// checkFound: is the spoilt row found everywhere in b?
func checkFound(t *testing.T, b []byte, pattern uint32) {
	t.Helper()
	whole := sum.CRC(b)
	for at := range 8 * len(b) {
		c, ok := spoil(b, at, pattern)
		if ok && sum.CRC(c) == whole {
			t.Errorf("%x and %x have the same sum %#x", b, c, whole)
		}
	}
}

// P3.3: one bit, two neighbouring ones, all patterns of a byte and a bit more, the widest ones; at each place, so across the edges of bytes too.
func TestCRCFindsSpoiltBits(t *testing.T) {
	dice := rand.New(rand.NewSource(35))
	for _, n := range []int{1, 2, 4, 5, 12, 33} {
		for _, b := range [][]byte{make([]byte, n), bytes.Repeat([]byte{255}, n), row(dice, n)} {
			for pattern := uint32(1); pattern < 512; pattern += 2 {
				checkFound(t, b, pattern)
			}
			for i := range 32 {
				checkFound(t, b, 1|1<<i)
				checkFound(t, b, math.MaxUint32>>i)
			}
		}
	}
}

// P3.3: any bits of 32 that follow one another.
func TestCRCFindsSpoiltBitsByTheDice(t *testing.T) {
	dice := rand.New(rand.NewSource(36))
	for range 2000 {
		checkFound(t, row(dice, 4+dice.Intn(12)), 1|1<<31|dice.Uint32())
	}
}

// P3.3: rows that differ in all 32 bits that follow one another are those of four bytes; of these no two have one sum, so each sum comes back as the four bytes it came from.
func TestCRCOfFourBytesLosesNothing(t *testing.T) {
	var bits []uint32
	none := sum.CRC(make([]byte, 4))
	for i := range 32 {
		c, _ := spoil(make([]byte, 4), i, 1)
		bits = append(bits, sum.CRC(c)^none)
	}
	rank := 0
	for i := range 32 { // elimination: are the 32 differences independent?
		at := slices.IndexFunc(bits, func(x uint32) bool { return x>>i&1 != 0 })
		if at < 0 {
			continue
		}
		first := bits[at]
		bits = slices.Delete(bits, at, at+1)
		for j := range bits {
			if bits[j]>>i&1 != 0 {
				bits[j] ^= first
			}
		}
		rank++
	}
	if rank != 32 {
		t.Errorf("the sums of four bytes tell %d bits apart, not 32", rank)
	}
}

// R4: what is handed in stays as it was, its spare room too, and later changes of it change no sum.
func TestSumsLeaveTheirBytes(t *testing.T) {
	dice := rand.New(rand.NewSource(37))
	for n := range 70 {
		all := row(dice, n+16)
		was := bytes.Clone(all)
		b := all[:n]
		crc, more := sum.CRC(b), sum.More(7, b)
		if !bytes.Equal(all, was) {
			t.Errorf("%x became %x", was, all)
		}
		clear(all)
		if again := sum.CRC(was[:n]); again != crc {
			t.Errorf("CRC(%x) = %#x, and then %#x", was[:n], crc, again)
		}
		if again := sum.More(7, was[:n]); again != more {
			t.Errorf("More(7, %x) = %#x, and then %#x", was[:n], more, again)
		}
	}
}

// P3.2: numbers that are written out: the chapter's, and those that are known of FNV-1a.
func TestHashExamples(t *testing.T) {
	for _, c := range []struct {
		key string
		h   uint32
	}{
		{"", 0x811c9dc5},
		{"a", 0xe40c292c},
		{"foobar", 0xbf9cf968},
		{"b", 0xe70c2de5},
		{"fo", 0x6222e842},
		{"foo", 0xa9f37ed7},
		{"\x00", 0x050c5d1f},
	} {
		if h := sum.Hash(c.key); h != c.h {
			t.Errorf("Hash(%q) = %#x; want %#x", c.key, h, c.h)
		}
	}
}

// P3.2: keys of one byte each; no two of them have one hash.
func TestHashOfEachByte(t *testing.T) {
	seen := map[uint32]int{}
	for x := range 256 {
		b := []byte{byte(x)}
		h := sum.Hash(string(b))
		if want := hashByteByByte(b); h != want {
			t.Errorf("Hash(%q) = %#x; want %#x", b, h, want)
		}
		if y, ok := seen[h]; ok {
			t.Errorf("Hash of the bytes %d and %d is %#x", x, y, h)
		}
		seen[h] = x
	}
}

// P3.2: a key is its bytes, not its runes: bytes of 128 and above, whether they make a rune or none.
func TestHashOfHighBytes(t *testing.T) {
	for _, key := range []string{"\x80", "\xff", "\xff\xff\xff", "\xc3", "\xc3\xa9", "é", "\xa9\xc3", "a\x80b", "\u65e5\u672c", "\xed\xa0\x80", "\xf4\x90\x80\x80", "\xef\xbf\xbd", "\x00\x80\x00"} {
		if got, want := sum.Hash(key), hashByteByByte([]byte(key)); got != want {
			t.Errorf("Hash(%q) = %#x; want %#x", key, got, want)
		}
	}
	if sum.Hash("\xff") == sum.Hash("\ufffd") {
		t.Error("a byte that makes no rune counts as the rune that stands for it")
	}
}

// P3.2: keys of all lengths, and longer ones than a key may be.
func TestHashOfKeys(t *testing.T) {
	dice := rand.New(rand.NewSource(38))
	for n := range 300 {
		b := row(dice, n)
		h := sum.Hash(string(b))
		if want := hashByteByByte(b); h != want {
			t.Errorf("Hash(%q) = %#x; want %#x", b, h, want)
		}
		library := fnv.New32a()
		library.Write(b)
		if want := library.Sum32(); h != want {
			t.Errorf("Hash(%q) = %#x; the library says %#x", b, h, want)
		}
	}
}

func FuzzMore(f *testing.F) {
	f.Add(uint32(0), []byte("123456789"), 4)
	f.Add(uint32(7), []byte{}, 0)
	f.Fuzz(func(t *testing.T, s uint32, b []byte, at int) {
		checkMore(t, s, b)
		checkCRC(t, b)
		if at >= 0 && at <= len(b) && sum.More(sum.More(s, b[:at]), b[at:]) != sum.More(s, b) {
			t.Errorf("%x behind %#x, cut at %d", b, s, at)
		}
		if got, want := sum.Hash(string(b)), hashByteByByte(b); got != want {
			t.Errorf("Hash(%q) = %#x; want %#x", b, got, want)
		}
	})
}
