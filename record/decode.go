package record

import (
	"towpath/api"
	"towpath/codec"
)

// Decode: the transaction of bytes. (P5.2)
func Decode(b []byte) (api.Txn, api.Errno) {
	r := codec.NewReader(b)
	number, wrong := take(r, r.Var, numberWrong)
	if wrong != api.OK {
		return api.Txn{}, wrong
	}
	count, wrong := take(r, r.Var, countWrong)
	if wrong != api.OK {
		return api.Txn{}, wrong
	}
	writes := make([]api.Write, count)
	for i := range len(writes) {
		if writes[i], wrong = takeWrite(r); wrong != api.OK {
			return api.Txn{}, wrong
		}
	}
	if wrong := r.End(); wrong != api.OK {
		return api.Txn{}, wrong
	}
	return api.Txn{Number: int(number), Writes: writes}, api.OK
}

// takeWrite: the next write.
func takeWrite(r *codec.Reader) (api.Write, api.Errno) {
	key, wrong := take(r, func() string { return r.Text(api.MaxKey) }, keyWrong)
	if wrong != api.OK {
		return api.Write{}, wrong
	}
	drop, wrong := take(r, func() uint64 { return r.Fixed(1) }, dropWrong)
	if wrong != api.OK {
		return api.Write{}, wrong
	}
	if drop == drops {
		return api.Write{Key: key, Drop: true}, api.OK
	}
	val, wrong := take(r, func() string { return r.Text(api.MaxVal) }, noneWrong)
	if wrong != api.OK {
		return api.Write{}, wrong
	}
	return api.Write{Key: key, Val: val}, api.OK
}

// take: the thing that next takes off the reader; or what the reader refuses of it; or, once it is taken, what refuse does.
//
// Amid the bytes End does not tell a reader that went wrong from one that is not at its end. That it stands where it stood does: each thing has a byte at least.
func take[T any](r *codec.Reader, next func() T, refuse func(T) api.Errno) (T, api.Errno) {
	var none T
	left := r.Left()
	thing := next()
	if r.Left() == left {
		return none, r.End()
	}
	if wrong := refuse(thing); wrong != api.OK {
		return none, wrong
	}
	return thing, api.OK
}

// numberWrong: what is wrong of a transaction's number.
func numberWrong(n uint64) api.Errno {
	if n < 1 || n > api.MaxLog {
		return api.ErrArg
	}
	return api.OK
}

// countWrong: what is wrong of how many writes there are.
func countWrong(n uint64) api.Errno {
	if n > api.MaxWrites {
		return api.ErrLimit
	}
	return api.OK
}

// keyWrong: what is wrong of a key that is not too long.
func keyWrong(key string) api.Errno {
	if key == "" {
		return api.ErrArg
	}
	return api.OK
}

// dropWrong: what is wrong of the byte behind a key.
func dropWrong(n uint64) api.Errno {
	if n != stays && n != drops {
		return api.ErrForm
	}
	return api.OK
}

// noneWrong: of a value that is not too long, nothing.
func noneWrong(string) api.Errno {
	return api.OK
}
