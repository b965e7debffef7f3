package free

import (
	"towpath/api"
	"towpath/conf"
)

// lane: a task that takes transactions off the line and has them installed, one behind the other, till the line is closed.
func (r *run) lane(number int) {
	replies := make(chan api.Resp, api.MaxWrites) // with room for all of a transaction, so that no owner waits for a lane
	for t := range r.line {
		writes := counting(t.Writes)
		for _, w := range writes {
			shard, _ := conf.Shard(r.conf, w.Key)
			r.queues[shard] <- request{api.Req{Kind: api.ReqInstall, From: number, Number: t.Number, Write: w}, replies}
		}
		for range writes {
			<-replies
		}
		r.done <- t.Number
	}
}

// counting: the writes that count, of each key the last one, for a shard takes no two of one key and one number.
func counting(writes []api.Write) []api.Write {
	last := map[string]int{}
	for at, w := range writes {
		last[w.Key] = at
	}
	var l []api.Write
	for at, w := range writes {
		if last[w.Key] == at {
			l = append(l, w)
		}
	}
	return l
}
