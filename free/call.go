package free

import (
	"towpath/api"
	"towpath/call"
)

// call: a task that is a call, begun at the mark that the gate tells it; its answer. Till it has told the gate that it has ended, no version that it may read is collected.
func (r *run) call(number int, x api.Call) api.Answer {
	t, _ := call.New(number, r.conf, x)
	s := <-r.begins
	t.Begin(s.mark, s.least, nil)                 // what is beyond the mark is asked for by Saves alone
	replies := make(chan api.Resp, len(r.queues)) // with room for all of them, so that no owner waits for a call
	for shard, what, more := t.Next(); more; shard, what, more = t.Next() {
		r.queues[shard] <- request{what, replies}
		t.Sent()
	}
	for !t.All() {
		t.Got(<-replies)
	}
	r.ends <- s.mark
	a, _, _ := t.Answer()
	return a
}
