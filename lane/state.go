package lane

import "towpath/api"

// none: the state of a lane that holds no transaction.
type none struct{}

func (none) holds() int { return 0 }

func (none) ready() bool { return false }

// underWay: the state of a lane that holds a transaction.
type underWay struct {
	number int
	left   []api.Write // those that count and were not sent, the next one first
	out    int         // sent, and not acknowledged
}

func (u *underWay) holds() int { return u.number }

func (u *underWay) ready() bool { return len(u.left) == 0 && u.out == 0 }

// next write to be sent; false: all are.
func (u *underWay) next() (api.Write, bool) {
	if len(u.left) == 0 {
		return api.Write{}, false
	}
	return u.left[0], true
}

// send the next write; false: there is none.
func (u *underWay) send() bool {
	if len(u.left) == 0 {
		return false
	}
	u.left = u.left[1:]
	u.out++
	return true
}

// acknowledge one of those that are out, whichever it is: they are only counted; false: there is none.
func (u *underWay) acknowledge() bool {
	if u.out == 0 {
		return false
	}
	u.out--
	return true
}

// counting: of each key the last write, in the order in which these stand; in new memory.
func counting(writes []api.Write) []api.Write {
	last := make(map[string]int, len(writes))
	for i, w := range writes {
		last[w.Key] = i
	}
	var l []api.Write
	for i, w := range writes {
		if last[w.Key] == i {
			l = append(l, w)
		}
	}
	return l
}
