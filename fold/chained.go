package fold

import (
	"slices"

	"towpath/api"
)

// none stands where no transaction is: their numbers begin with 1.
const none = 0

// turn is a key, and the number of a transaction that writes it; with the number none the turn is that of whichever writes the key next.
type turn struct {
	key    string
	number int
}

// Writer: the number of the last transaction ahead of one that writes a key; 0: none. (P7.3)
func Writer(l []api.Txn, number int, key string) (int, api.Errno) {
	if wrong := check(l); wrong != api.OK {
		return 0, wrong
	}
	if number < 1 || number > len(l)+1 || !mayBe(key) {
		return 0, api.ErrArg
	}
	return writers(l[:number-1], only(key))[turn{key, none}], api.OK
}

// Chained: does a chain of common keys lead from one transaction to a later one? (P7.4)
//
// It is enough to ask of each key who wrote it last: those that wrote it before are chained to that one by the key itself.
func Chained(l []api.Txn, i, j int) (bool, api.Errno) {
	if wrong := check(l); wrong != api.OK {
		return false, wrong
	}
	if i < 1 || i >= j || j > len(l) {
		return false, api.ErrArg
	}
	ahead := writers(l[i-1:j], stretch("", ""))
	reached := make([]bool, j+1)
	reached[i] = true
	for _, t := range l[i:j] {
		reached[t.Number] = slices.ContainsFunc(t.Writes, func(w api.Write) bool {
			return reached[ahead[turn{w.Key, t.Number}]]
		})
	}
	return reached[j], api.OK
}

// writers: of each key that is asked for and each of these transactions that writes it, which of them wrote it last ahead of that one; and at the number none, which of them wrote it last of all.
func writers(l []api.Txn, of asked) map[turn]int {
	ahead := map[turn]int{}
	for _, t := range l {
		for _, w := range t.Writes {
			if of(w.Key) {
				note(ahead, w.Key, t.Number)
			}
		}
	}
	return ahead
}

// note puts it down that a transaction writes a key, behind all that wrote it so far.
func note(ahead map[turn]int, key string, number int) {
	next := turn{key, none}
	last := ahead[next]
	if last == number {
		return // of one key a transaction may have several writes: it is not ahead of itself
	}
	ahead[turn{key, number}] = last
	ahead[next] = number
}
