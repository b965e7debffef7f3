package trace

import (
	"towpath/api"
	"towpath/conf"
	"towpath/deps"
	"towpath/fold"
	"towpath/gate"
)

// story is a replica as far as its events tell of it: who waits where, but no keys and no values.
type story struct {
	conf  api.Config
	log   []api.Txn
	there *gate.Gate
	deps  *deps.Table
	read  int  // the record that was read last
	holds bool // does the dispatcher hold that one?
	// line are the transactions that wait for a lane, passed those that wait for the gate.
	line, passed []int
	lanes        []lane
	// queues have whom the owners' events will name: transactions, above 0, and calls, below it. out says of each how many of its requests are in queues.
	queues [][]int
	out    map[int]int
	calls  map[int]stage
}

// lane is a transaction that a lane holds.
type lane struct {
	number int   // 0: it holds none
	left   []int // the shards to which its writes go that were not sent, the next one first
}

// stage of a call.
type stage uint8

const (
	unknown stage = iota // it has not begun
	begun
	ended
)

// newStory: where it begins, of a configuration that may be; false: of such a log, or from such a checkpoint, it cannot.
func newStory(c api.Config, l []api.Txn, from api.Saved) (*story, bool) {
	if _, wrong := fold.Store(l, 0); wrong != api.OK { // all of fold's calls look at the log first, as layer 6 would
		return nil, false
	}
	there, wrong := gate.New(from.Mark, from.Beyond)
	if wrong != api.OK || greatest(from) > len(l) {
		return nil, false
	}
	return &story{
		conf:   c,
		log:    l,
		there:  there,
		deps:   deps.New(),
		read:   from.Mark,
		lanes:  make([]lane, c.Lanes),
		queues: make([][]int, c.Shards),
		out:    map[int]int{},
		calls:  map[int]stage{},
	}, true
}

// greatest number that is there at the beginning, of a checkpoint whose numbers rise.
func greatest(from api.Saved) int {
	if n := len(from.Beyond); n > 0 {
		return from.Beyond[n-1]
	}
	return from.Mark
}

// kind of tasks, with the function that asks their rows of the machine's table.
type kind struct {
	name string // as layer 13 tells it
	// ask: the step of one of these tasks, the one that is which, is done, if it can do one now. The fields of the event that are the step's own are told; no kind: it can do none. The event that is to be next is for tasks that have a choice, as calls do.
	ask func(which int, next api.Event) api.Event
}

// kinds of tasks, all of them.
func (s *story) kinds() [5]kind {
	return [...]kind{
		{"dispatcher", func(int, api.Event) api.Event { return s.dispatcher() }},
		{"lane", func(number int, _ api.Event) api.Event { return s.lane(number) }},
		{"owner", func(shard int, _ api.Event) api.Event { return s.owner(shard) }},
		{"gate", func(int, api.Event) api.Event { return s.gate() }},
		{"call", func(number int, next api.Event) api.Event { return s.call(number, next) }},
	}
}

// step of the task of an event that is to be next; the event that a replica would tell of it. No kind: the task can do none, or is not there.
func (s *story) step(kinds [5]kind, next api.Event) api.Event {
	name, which, _ := conf.Name(s.conf, next.Task) // of a task that is not there no name, which is no kind's
	for _, k := range kinds {
		if k.name == name {
			told := k.ask(which, next)
			told.Task, told.Mark = next.Task, s.there.Mark()
			return told
		}
	}
	return api.Event{}
}
