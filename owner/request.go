package owner

import (
	"towpath/api"
	"towpath/shard"
)

// mayBe: may a request be? What its kind has no use for must be empty.
func mayBe(r api.Req) bool {
	if r.From == 0 || r.Number < 0 || r.Number > api.MaxLog {
		return false
	}
	noWrite, noKeys, noneBeyond := r.Write == api.Write{}, r.Key == "" && r.End == "", len(r.Beyond) == 0
	switch r.Kind {
	case api.ReqInstall:
		return noKeys && noneBeyond && r.From > 0 && r.Number > 0 && isWrite(r.Write)
	case api.ReqGet:
		return noWrite && noneBeyond && isKey(r.Key) && r.End == ""
	case api.ReqScan:
		return noWrite && noneBeyond && isBound(r.Key) && isBound(r.End)
	case api.ReqCollect:
		return noWrite && noKeys && noneBeyond
	case api.ReqDump:
		return noWrite && noKeys && rise(r.Number, r.Beyond)
	}
	return false
}

// isKey: may a key be?
func isKey(key string) bool {
	return key != "" && len(key) <= api.MaxKey
}

// isBound: may a text be a bound of a stretch? An empty one leaves that side open.
func isBound(text string) bool {
	return text == "" || isKey(text)
}

// isWrite: may a write be?
func isWrite(w api.Write) bool {
	return isKey(w.Key) && len(w.Val) <= api.MaxVal && (w.Val == "" || !w.Drop)
}

// rise: do the numbers rise, all of them above this one and none above the greatest?
func rise(above int, numbers []int) bool {
	for _, n := range numbers {
		if n <= above || n > api.MaxLog {
			return false
		}
		above = n
	}
	return true
}

// deed is done for a request that may be; its reply does not say yet to whom it goes.
type deed func(r api.Req) api.Resp

// deeds: what is done in a shard for a request, by its kind. There is none for ReqNone, which may not be.
func deeds(s *shard.Shard) [api.ReqDump + 1]deed {
	return [...]deed{
		api.ReqInstall: func(r api.Req) api.Resp {
			ok, _ := s.Install(r.Number, r.Write)
			return api.Resp{OK: ok}
		},
		api.ReqGet: func(r api.Req) api.Resp {
			val, ok := s.Get(r.Key, r.Number)
			if !ok {
				return api.Resp{}
			}
			return api.Resp{OK: true, Entries: []api.Entry{{Key: r.Key, Val: val}}}
		},
		api.ReqScan: func(r api.Req) api.Resp {
			return api.Resp{OK: true, Entries: s.Scan(r.Key, r.End, r.Number)}
		},
		api.ReqCollect: func(r api.Req) api.Resp {
			return api.Resp{OK: true, Count: s.Collect(r.Number)}
		},
		api.ReqDump: func(r api.Req) api.Resp {
			return api.Resp{OK: true, Held: s.Dump(r.Number, r.Beyond)}
		},
	}
}
