package script

import (
	"strconv"
	"strings"

	"towpath/api"
)

// digits of a byte in hexadecimal.
const digits = "0123456789abcdef"

// nothing stands for an empty key, or an empty end, in a scan.
const nothing = "-"

// scanner takes the words of a line, one behind the other. What is wrong once stays so: it is enough to ask behind the last word.
type scanner struct {
	rest  string // from the next word on
	more  bool   // is there a next one?
	wrong bool
}

// need: else the line is wrong.
func (s *scanner) need(ok bool) {
	s.wrong = s.wrong || !ok
}

// word: the next one. Where a blank stands amiss it is empty, which none of those that may be is.
func (s *scanner) word() string {
	s.need(s.more)
	word, rest, more := strings.Cut(s.rest, " ")
	s.rest, s.more = rest, more
	return word
}

// number: of those that there are in a script.
func (s *scanner) number() int {
	word := s.word()
	n, e := strconv.ParseInt(word, 10, 32)
	// It has one form: 01, +1 and -0 are none, though they would be taken.
	s.need(e == nil && strconv.FormatInt(n, 10) == word)
	return int(n)
}

// upTo: a number from 0 to the greatest one.
func (s *scanner) upTo(most int) int {
	n := s.number()
	s.need(n >= 0 && n <= most)
	return n
}

// key: one that may be.
func (s *scanner) key() string { return s.asKey(s.word()) }

// bound of a stretch: a key, or none.
func (s *scanner) bound() string {
	word := s.word()
	if word == nothing {
		return ""
	}
	return s.asKey(word)
}

// asKey: what a word says, which must be a key that may be.
func (s *scanner) asKey(word string) string {
	key := s.asBytes(word)
	s.need(len(key) >= 1 && len(key) <= api.MaxKey)
	return key
}

// write: whether it may be is another's to say.
func (s *scanner) write() api.Write {
	word := s.word()
	if key, val, ok := strings.Cut(word, "="); ok {
		return api.Write{Key: s.asBytes(key), Val: s.asBytes(val)}
	}
	key, ok := strings.CutSuffix(word, "-")
	s.need(ok)
	return api.Write{Key: s.asBytes(key), Drop: true}
}

// asBytes: what a word says in hexadecimal.
func (s *scanner) asBytes(word string) string {
	s.need(len(word)%2 == 0)
	b := make([]byte, 0, len(word)/2)
	for ; len(word) >= 2; word = word[2:] {
		high, low := strings.IndexByte(digits, word[0]), strings.IndexByte(digits, word[1])
		s.need(high >= 0 && low >= 0)
		b = append(b, byte(high<<4|low))
	}
	return string(b)
}
