package dump

import (
	"towpath/api"
	"towpath/codec"
)

// taker takes what a checkpoint says off its bytes. What is refused first stays: nothing is taken behind it, and all that is asked for then is zero.
type taker struct {
	r     *codec.Reader
	wrong api.Errno
}

// Decode: what such bytes say. (P18.2)
func Decode(b []byte) (api.Saved, api.Errno) {
	t := &taker{r: codec.NewReader(b)}
	var s api.Saved
	s.Mark = t.number()
	s.Beyond = list(t, t.number)
	s.Held = list(t, t.held)
	if t.wrong != api.OK {
		return api.Saved{}, t.wrong
	}
	if wrong := t.r.End(); wrong != api.OK {
		return api.Saved{}, wrong
	}
	if wrong := Check(s); wrong != api.OK {
		return api.Saved{}, wrong
	}
	return s, api.OK
}

// take: the thing that next takes off the reader.
//
// Amid the bytes End does not tell a reader that went wrong from one that is not at its end. That it stands where it stood does: each thing has a byte at least.
func take[T any](t *taker, next func() T) T {
	var none T
	if t.wrong != api.OK {
		return none
	}
	left := t.r.Left()
	thing := next()
	if t.r.Left() == left {
		t.wrong = t.r.End()
		return none
	}
	return thing
}

// list: how many things there are, and then each of them, by next.
//
// It grows by what is there: how many there are is only said, and may be far more than the bytes hold.
func list[T any](t *taker, next func() T) []T {
	var l []T
	for range t.number() {
		thing := next()
		if t.wrong != api.OK {
			return nil
		}
		l = append(l, thing)
	}
	return l
}

// number: the next one, of at most MaxLog.
func (t *taker) number() int {
	n := take(t, t.r.Var)
	if n > api.MaxLog {
		t.wrong = api.ErrLimit
		return 0
	}
	return int(n)
}

// text: the next one, of at most so many bytes.
func (t *taker) text(most int) string {
	return take(t, func() string { return t.r.Text(most) })
}

// dropped: does the next byte say that the key goes?
func (t *taker) dropped() bool {
	n := take(t, func() uint64 { return t.r.Fixed(1) })
	if n != stays && n != drops {
		t.wrong = api.ErrForm
	}
	return n == drops
}

// held: the next key with its versions.
func (t *taker) held() api.Held {
	key := t.text(api.MaxKey)
	version := func() api.Version {
		number := t.number()
		if t.dropped() {
			return api.Version{Number: number, Drop: true}
		}
		return api.Version{Number: number, Val: t.text(api.MaxVal)}
	}
	return api.Held{Key: key, Versions: list(t, version)}
}
