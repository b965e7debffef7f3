package trace

import (
	"towpath/api"
	"towpath/conf"
)

// dispatcher: the step that it can do now.
func (s *story) dispatcher() api.Event {
	switch {
	case !s.holds && s.read < len(s.log):
		s.holds = true
		s.read++
		return api.Event{Kind: api.EvRead, Number: s.read}
	case !s.holds:
		return api.Event{}
	case s.there.Has(s.read): // without having been dispatched: so from the beginning
		s.holds = false
		return api.Event{Kind: api.EvSkip, Number: s.read}
	case s.read <= s.there.Mark()+s.conf.Window:
		s.holds = false
		return api.Event{Kind: api.EvDispatch, Number: s.read, Count: s.open(s.read)}
	}
	return api.Event{}
}

// open: a transaction is; for how many it waits.
func (s *story) open(number int) int {
	waits, _ := s.deps.Add(s.log[number-1])
	if waits == 0 {
		s.line = append(s.line, number)
	}
	return waits
}

// lane: the step that the one of that number can do now.
func (s *story) lane(number int) api.Event {
	l := &s.lanes[number-1]
	switch held := l.number; {
	case held == 0:
		return s.take(l)
	case len(l.left) > 0:
		return s.send(l)
	case s.out[held] == 0:
		l.number = 0
		s.passed = append(s.passed, held)
		return api.Event{Kind: api.EvDone, Number: held}
	}
	return api.Event{}
}

// take: a lane that holds none takes the first one of the line.
func (s *story) take(l *lane) api.Event {
	number, ok := first(&s.line)
	if !ok {
		return api.Event{}
	}
	*l = lane{number: number, left: s.shards(number)}
	return api.Event{Kind: api.EvTake, Number: number}
}

// send: the next write of a lane that has some left.
func (s *story) send(l *lane) api.Event {
	shard := l.left[0]
	if !s.ask(shard, l.number) {
		return api.Event{}
	}
	l.left = l.left[1:]
	return api.Event{Kind: api.EvSend, Number: l.number, Shard: shard}
}

// shards of a transaction's writes that count, in their order.
func (s *story) shards(number int) []int {
	writes := s.log[number-1].Writes
	last := make(map[string]int, len(writes))
	for i, w := range writes {
		last[w.Key] = i
	}
	var l []int
	for i, w := range writes {
		if last[w.Key] == i {
			shard, _ := conf.Shard(s.conf, w.Key) // the story began with a configuration and a log that may be
			l = append(l, shard)
		}
	}
	return l
}

// ask: a request of a transaction or of a call goes to a queue's end; false: there is no room, or no such shard.
func (s *story) ask(shard, number int) bool {
	if shard < 0 || shard >= len(s.queues) || len(s.queues[shard]) >= s.conf.Queue {
		return false
	}
	s.queues[shard] = append(s.queues[shard], number)
	s.out[number]++
	return true
}

// owner: the step that the one of that shard can do now.
func (s *story) owner(shard int) api.Event {
	number, ok := first(&s.queues[shard])
	if !ok {
		return api.Event{}
	}
	s.out[number]--
	return api.Event{Kind: api.EvServe, Number: number, Shard: shard}
}

// gate: the step that it can do now.
func (s *story) gate() api.Event {
	number, ok := first(&s.passed)
	if !ok {
		return api.Event{}
	}
	up, _ := s.there.Done(number)
	free, _ := s.deps.Done(number)
	s.line = append(s.line, free...)
	return api.Event{Kind: api.EvGate, Number: number, Count: up}
}

// call: the step of the one of that number, if it can do the one that is to be next. What it asks for, and how much it writes, is not known: of these any that may be are taken.
func (s *story) call(number int, next api.Event) api.Event {
	told := api.Event{Kind: next.Kind, Number: number}
	goesOn, served := s.calls[number] == begun, s.out[number] == 0
	switch {
	case next.Kind == api.EvBegin && s.calls[number] == unknown:
		s.calls[number] = begun
	case next.Kind == api.EvAsk && goesOn && s.ask(next.Shard, number):
		told.Shard = next.Shard
	case next.Kind == api.EvWrite && goesOn && served && next.Count >= 0:
		told.Count = next.Count
	case next.Kind == api.EvEnd && goesOn && served:
		s.calls[number] = ended
	default:
		return api.Event{}
	}
	return told
}

// first of a line, which is taken from it; false: there is none.
func first(line *[]int) (int, bool) {
	if len(*line) == 0 {
		return 0, false
	}
	number := (*line)[0]
	*line = (*line)[1:]
	return number, true
}
