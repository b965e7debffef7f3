package plan

import (
	"towpath/api"
	"towpath/disk"
	"towpath/logfile"
	"towpath/replica"
)

// dispatcher is the number of that task.
const dispatcher = 0

// goal is what is to be done until something is so. It begins with a dispatcher that holds none.
type goal struct {
	next  func(done api.Event) int  // the task that goes on behind that step
	until func(done api.Event) bool // is it so behind that step?
}

// drive: the tasks that lead a replica, fed the whole log, from one goal to the next.
func drive(c api.Config, l []api.Txn, goals ...goal) []int {
	r := fed(c, l)
	ask, noted := noting(r)
	for _, g := range goals {
		done, code := api.Event{Mark: r.Mark()}, api.OK
		for code == api.OK && !g.until(done) {
			done, code = ask(g.next(done))
		}
	}
	return noted()
}

// fed: a replica as a plan is gone through on it: over an empty disk of 0 bytes, fed the whole log.
func fed(c api.Config, l []api.Txn) *replica.Replica {
	s, _ := logfile.New(l)
	d, _ := disk.New(0)
	r, _ := replica.New(c, s, d)
	r.Feed(len(l))
	return r
}

// noting: what asks a replica for the step of a task and notes the task; and what tells all that it noted.
func noting(r *replica.Replica) (ask func(task int) (api.Event, api.Errno), noted func() []int) {
	var tasks []int
	ask = func(task int) (api.Event, api.Errno) {
		done, code := r.Step(task)
		if code == api.OK {
			tasks = append(tasks, task)
		}
		return done, code
	}
	return ask, func() []int { return tasks }
}

// by: the task that goes on behind a step, if one transaction follows the other, and that lane takes each of them. One that waits for another is left alone.
func by(c api.Config, lane int) func(done api.Event) int {
	return func(done api.Event) int {
		switch {
		case done.Kind == api.EvDispatch && done.Count == 0, done.Kind == api.EvTake, done.Kind == api.EvServe:
			return lane
		case done.Kind == api.EvSend:
			return c.Lanes + 1 + done.Shard
		case done.Kind == api.EvDone:
			return c.Lanes + c.Shards + 1
		}
		return dispatcher
	}
}

// marked: is the mark at a transaction?
func marked(number int) func(done api.Event) bool {
	return func(done api.Event) bool { return done.Mark == number }
}

// taken: was a transaction taken by a lane?
func taken(number int) func(done api.Event) bool {
	return func(done api.Event) bool { return done.Kind == api.EvTake && done.Number == number }
}
