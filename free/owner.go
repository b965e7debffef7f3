package free

import (
	"towpath/api"
	"towpath/shard"
)

// owner: the task that has a shard to itself and serves what others ask, till nobody can ask any more; what the shard has then.
func (r *run) owner(number int) []api.Entry {
	s := shard.New()
	for q := range r.queues[number] {
		q.replies <- serve(s, q.what)
	}
	return s.Scan("", "", len(r.log))
}

// serve does what a lane or a call asks of a shard; the reply.
func serve(s *shard.Shard, q api.Req) api.Resp {
	reply := api.Resp{To: q.From, OK: true}
	switch q.Kind {
	case api.ReqInstall:
		reply.OK, _ = s.Install(q.Number, q.Write)
	case api.ReqGet:
		val, ok := s.Get(q.Key, q.Number)
		reply.OK = ok
		if ok {
			reply.Entries = []api.Entry{{Key: q.Key, Val: val}}
		}
	case api.ReqScan:
		reply.Entries = s.Scan(q.Key, q.End, q.Number)
	case api.ReqCollect:
		reply.Count = s.Collect(q.Number)
	}
	return reply
}
