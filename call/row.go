package call

import (
	"iter"
	"slices"
	"strings"

	"towpath/api"
	"towpath/conf"
)

// mayBe: may a call be?
func mayBe(c api.Call) bool {
	switch c.Kind {
	case api.CallGet:
		return isKey(c.Key) && c.End == ""
	case api.CallScan:
		return isBound(c.Key) && isBound(c.End)
	case api.CallCollect, api.CallSave:
		return c.Key == "" && c.End == ""
	}
	return false
}

// isKey: may a key be?
func isKey(key string) bool {
	return key != "" && len(key) <= api.MaxKey
}

// isBound: may a stretch begin or end there?
func isBound(key string) bool {
	return key == "" || isKey(key)
}

// request of a call that may be: the same to each owner that it asks.
func request(number int, c api.Call, mark, least int, beyond []int) api.Req {
	r := api.Req{From: number, Number: mark, Key: c.Key, End: c.End}
	switch c.Kind {
	case api.CallGet:
		r.Kind = api.ReqGet
	case api.CallScan:
		r.Kind = api.ReqScan
	case api.CallCollect:
		r.Kind, r.Number = api.ReqCollect, least
	case api.CallSave:
		r.Kind, r.Beyond = api.ReqDump, slices.Clone(beyond)
	}
	return r
}

// requests of a task that has begun, in their order, each behind its shard.
func (t *Task) requests() iter.Seq2[int, api.Req] {
	return func(yield func(int, api.Req) bool) {
		if t.call.Kind == api.CallGet {
			shard, _ := conf.Shard(t.conf, t.call.Key) // New has seen that both may be
			yield(shard, t.request)
			return
		}
		for shard := range t.conf.Shards {
			if !yield(shard, t.request) {
				return
			}
		}
	}
}

// found is what the replies have of that which the answer takes.
type found struct {
	entries [][]api.Entry
	held    [][]api.Held
	count   int
}

// add: what the answer to a call of that kind takes of a reply.
func (f *found) add(kind api.CallKind, r api.Resp) {
	switch kind {
	case api.CallGet:
		if len(r.Entries) != 1 { // no answer to a Get has more than one
			return
		}
		fallthrough
	case api.CallScan:
		f.entries = append(f.entries, slices.Clone(r.Entries))
	case api.CallCollect:
		f.count += r.Count
	case api.CallSave:
		f.held = append(f.held, copied(r.Held))
	}
}

// allEntries: those of all replies, by rising keys.
func (f *found) allEntries() []api.Entry {
	return together(func(e api.Entry) string { return e.Key }, f.entries...)
}

// allHeld: likewise.
func (f *found) allHeld() []api.Held {
	return copied(together(func(h api.Held) string { return h.Key }, f.held...))
}

// together: what the lists have, by rising keys; of one key in the order of the lists.
func together[T any](key func(T) string, lists ...[]T) []T {
	l := slices.Concat(lists...)
	slices.SortStableFunc(l, func(a, b T) int { return strings.Compare(key(a), key(b)) })
	return l
}

// copied: a list that shares no versions with this one.
func copied(l []api.Held) []api.Held {
	c := slices.Clone(l)
	for i := range c {
		c[i].Versions = slices.Clone(c[i].Versions)
	}
	return c
}
