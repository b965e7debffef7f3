package replica

import (
	"slices"
	"strings"

	"towpath/api"
	"towpath/deps"
	"towpath/disk"
	"towpath/dump"
	"towpath/feed"
	"towpath/gate"
	"towpath/lane"
	"towpath/logfile"
	"towpath/owner"
	"towpath/ring"
)

// machine is what the tasks of a replica share, and what moves between them.
type machine struct {
	conf api.Config
	disk *disk.Disk
	feed *feed.Feed
	deps *deps.Table
	// waiting are the open transactions that wait for others, by their numbers.
	waiting map[int]api.Txn
	// line are those that wait for a lane, passed the numbers that wait for the gate. All of these are open, and between the mark and the newest one dispatched there are no more than the window.
	line   *ring.Ring[api.Txn]
	passed *ring.Ring[int]
	lanes  []*lane.Lane
	owners []*owner.Owner
	gate   *gate.Gate
	// order are the tasks that there are, in their order; calls that have ended are there no more, and their answers are.
	order   []task
	calls   []*caller // those of the order
	taken   int       // how many calls were taken, ended or not
	answers map[int]api.Answer
	closed  bool
	dead    bool
}

// newMachine: from a checkpoint, of a configuration, both of which may be, over a source and a disk that are there.
func newMachine(c api.Config, s *logfile.Source, d *disk.Disk, saved api.Saved) (*machine, api.Errno) {
	f, wrong := feed.New(s, saved.Mark, saved.Beyond, c.Window)
	if wrong != api.OK {
		return nil, wrong
	}
	m := &machine{conf: c, disk: d, feed: f, deps: deps.New(), waiting: map[int]api.Txn{}, answers: map[int]api.Answer{}}
	// Nothing here is refused: all of it may be.
	m.line, _ = ring.New[api.Txn](c.Window)
	m.passed, _ = ring.New[int](c.Window)
	m.gate, _ = gate.New(saved.Mark, saved.Beyond)
	parts, _ := dump.Split(c, saved)
	for n := range c.Lanes {
		l, _ := lane.New(n+1, c)
		m.lanes = append(m.lanes, l)
	}
	for n, part := range parts {
		o, _ := owner.New(n, c.Queue, part)
		m.owners = append(m.owners, o)
	}
	m.seatAll()
	return m, api.OK
}

// seatAll lays out the tasks, calls aside, in their order.
func (m *machine) seatAll() {
	m.order = append(m.order, &dispatcher{m.nextSeat()})
	for _, l := range m.lanes {
		m.order = append(m.order, &worker{m.nextSeat(), l})
	}
	for n, o := range m.owners {
		m.order = append(m.order, &keeper{m.nextSeat(), n, o})
	}
	m.order = append(m.order, &warden{m.nextSeat()})
}

// nextSeat: that of the task behind those that are seated, while there are no calls.
func (m *machine) nextSeat() seat {
	return seat{machine: m, at: len(m.order)}
}

// last of the order that is so; false: none is.
//
// From the end, for there stand the calls, which come and go: those that are asked for are mostly the newest.
func (m *machine) last(is func(t task) bool) (task, bool) {
	for _, t := range slices.Backward(m.order) {
		if is(t) {
			return t, true
		}
	}
	return nil, false
}

// find: the task of a number; false: there is none, or it is a call that has ended.
func (m *machine) find(number int) (task, bool) {
	return m.last(func(t task) bool { return t.number() == number })
}

// advance: the step of a task that can do something.
func (m *machine) advance(t task) api.Event {
	kind := t.can()
	e := t.step(kind)
	e.Task, e.Kind, e.Mark = t.number(), kind, m.gate.Mark()
	return e
}

// take: a call that may be; its number.
func (m *machine) take(x api.Call) int {
	m.taken++
	c := newCaller(seat{machine: m, at: -m.taken}, x)
	m.order = append(m.order, c)
	m.calls = append(m.calls, c)
	return c.at
}

// hasTaken: is it the number of a call, ended or not?
func (m *machine) hasTaken(number int) bool {
	return number < 0 && number >= -m.taken
}

// end: a call has ended, with this answer.
func (m *machine) end(number int, a api.Answer) {
	m.answers[number] = a
	m.order = slices.DeleteFunc(m.order, func(t task) bool { return t.number() == number })
	m.calls = slices.DeleteFunc(m.calls, func(c *caller) bool { return c.at == number })
}

// least mark in use: of the mark, and of those of the calls that have begun and not ended.
func (m *machine) least() int {
	least := m.gate.Mark()
	for _, c := range m.calls {
		if mark, begun := c.asks.Mark(); begun {
			least = min(least, mark)
		}
	}
	return least
}

// isSaving: has a Save begun, and not ended?
func (m *machine) isSaving() bool {
	return slices.ContainsFunc(m.calls, func(c *caller) bool { return c.isSave && c.begun() })
}

// isDone: is no record held or to be read, no transaction open, no call under way?
func (m *machine) isDone() bool {
	isRead := m.feed.Held() == 0 && m.feed.Can(m.gate.Mark()) == api.EvNone
	return isRead && len(m.deps.Open()) == 0 && len(m.calls) == 0
}

// free: a transaction waits for none any more.
func (m *machine) free(number int) {
	m.line.Put(m.waiting[number])
	delete(m.waiting, number)
}

// versions: all that the shards have, by rising keys. No two shards have a key in common.
func (m *machine) versions() []api.Held {
	var l []api.Held
	for _, o := range m.owners {
		l = append(l, o.All()...)
	}
	slices.SortFunc(l, func(a, b api.Held) int { return strings.Compare(a.Key, b.Key) })
	return l
}

// entriesAt: the keys that have a value at a mark, in their order.
func entriesAt(l []api.Held, mark int) []api.Entry {
	var entries []api.Entry
	for _, h := range l {
		if v, ok := newestAt(h.Versions, mark); ok && !v.Drop {
			entries = append(entries, api.Entry{Key: h.Key, Val: v.Val})
		}
	}
	return entries
}

// newestAt: the version with the greatest number of at most the mark; false: there is none.
func newestAt(rising []api.Version, mark int) (api.Version, bool) {
	for _, v := range slices.Backward(rising) {
		if v.Number <= mark {
			return v, true
		}
	}
	return api.Version{}, false
}
