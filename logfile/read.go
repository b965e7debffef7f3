package logfile

import (
	"iter"

	"towpath/api"
	"towpath/codec"
	"towpath/record"
	"towpath/sum"
)

// maxRecord is how many bytes of a transaction Read takes at most. None that may be has as many: the bound keeps a spoilt length from being believed.
const maxRecord = 65536

// told is a record of some bytes: its transaction, and the place behind it; or why it is none.
type told struct {
	txn   api.Txn
	end   int
	wrong api.Errno
}

// Read: the transactions of a log, as far as it is whole; how many bytes that is. (P6.2)
func Read(b []byte) (l []api.Txn, good int, e api.Errno) {
	wrong := inTurn()
	for r := range records(b) {
		if e = r.wrong; e == api.OK {
			e = wrong(r.txn)
		}
		if e != api.OK {
			break
		}
		l, good = append(l, r.txn), r.end
	}
	return l, good, e
}

// records: those of some bytes, one behind the other; the first that is none is the last one told.
func records(b []byte) iter.Seq[told] {
	return func(yield func(told) bool) {
		r := codec.NewReader(b)
		for r.Left() > 0 {
			t, e := takeRecord(r)
			next := told{txn: t, end: len(b) - r.Left(), wrong: e}
			if !yield(next) || e != api.OK {
				return
			}
		}
	}
}

// takeRecord: the transaction of the next record.
func takeRecord(r *codec.Reader) (api.Txn, api.Errno) {
	text, e := take(r, func() string { return r.Text(maxRecord) })
	if e != api.OK {
		return api.Txn{}, e
	}
	crc, e := take(r, func() uint64 { return r.Fixed(sumWidth) })
	if e != api.OK {
		return api.Txn{}, e
	}
	b := []byte(text)
	if uint64(sum.CRC(b)) != crc {
		return api.Txn{}, api.ErrForm
	}
	return record.Decode(b)
}

// take: the thing that next takes off the reader; or what the reader refuses of it.
//
// Amid the bytes End does not tell a reader that went wrong from one that is not at its end. That it stands where it stood does: each thing has a byte at least.
func take[T any](r *codec.Reader, next func() T) (T, api.Errno) {
	left := r.Left()
	thing := next()
	if r.Left() == left {
		return thing, r.End()
	}
	return thing, api.OK
}
