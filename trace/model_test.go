package trace_test

import (
	"fmt"
	"hash/fnv"
	"math"
	"math/rand"
	"slices"
	"strconv"
	"testing"

	"towpath/api"
	"towpath/trace"
)

// past is a story by the words of DOC.md and of the chapter: it keeps nothing but the events that were told, and goes through all of them for whatever is asked.
type past struct {
	c    api.Config
	log  []api.Txn
	from api.Saved
	told []api.Event
}

// shardOf a key, by the library's FNV-1a.
func shardOf(c api.Config, key string) int {
	h := fnv.New32a()
	h.Write([]byte(key))
	return int(h.Sum32() % uint32(c.Shards))
}

// counting: the writes that count.
func counting(t api.Txn) []api.Write {
	var l []api.Write
	for i, w := range t.Writes {
		if !slices.ContainsFunc(t.Writes[i+1:], func(x api.Write) bool { return x.Key == w.Key }) {
			l = append(l, w)
		}
	}
	return l
}

// writes: does a transaction write a key?
func writes(t api.Txn, key string) bool {
	return slices.ContainsFunc(t.Writes, func(w api.Write) bool { return w.Key == key })
}

// numbers of the events of these kinds, in order.
func numbers(told []api.Event, kinds ...api.EventKind) []int {
	var l []int
	for _, e := range told {
		if slices.Contains(kinds, e.Kind) {
			l = append(l, e.Number)
		}
	}
	return l
}

// mark: the greatest number up to which all is there, if these were told.
func (p *past) mark(told []api.Event) int {
	there := append(numbers(told, api.EvGate), p.from.Beyond...)
	m := p.from.Mark
	for slices.Contains(there, m+1) {
		m++
	}
	return m
}

// awaited: of a transaction that was dispatched: the last ones dispatched ahead of it that write one of its keys, as far as they were not there then; each once.
func (p *past) awaited(number int) []int {
	place := slices.IndexFunc(p.told, func(e api.Event) bool { return e.Kind == api.EvDispatch && e.Number == number })
	ahead := p.told[:place]
	var l []int
	for _, w := range p.log[number-1].Writes {
		for _, n := range slices.Backward(numbers(ahead, api.EvDispatch)) {
			if writes(p.log[n-1], w.Key) {
				if !slices.Contains(numbers(ahead, api.EvGate), n) {
					l = append(l, n)
				}
				break
			}
		}
	}
	slices.Sort(l)
	return slices.Compact(l)
}

// line: those that wait for a lane.
func (p *past) line() []int {
	var l []int
	for i, e := range p.told {
		switch e.Kind {
		case api.EvDispatch:
			if len(p.awaited(e.Number)) == 0 {
				l = append(l, e.Number)
			}
		case api.EvGate:
			gone := numbers(p.told[:i+1], api.EvGate)
			for _, n := range numbers(p.told[:i], api.EvDispatch) {
				waited := p.awaited(n)
				left := slices.DeleteFunc(slices.Clone(waited), func(x int) bool { return slices.Contains(gone, x) })
				if slices.Contains(waited, e.Number) && len(left) == 0 {
					l = append(l, n)
				}
			}
		case api.EvTake:
			l = l[1:]
		}
	}
	return l
}

// queue of a shard's owner.
func (p *past) queue(shard int) []int {
	var l []int
	served := 0
	for _, e := range p.told {
		switch {
		case e.Shard != shard:
		case e.Kind == api.EvSend || e.Kind == api.EvAsk:
			l = append(l, e.Number)
		case e.Kind == api.EvServe:
			served++
		}
	}
	return l[served:]
}

// isServed: does no request of a transaction or of a call wait?
func (p *past) isServed(number int) bool {
	for shard := range p.c.Shards {
		if slices.Contains(p.queue(shard), number) {
			return false
		}
	}
	return true
}

// next: what a task that is no call does next; false: it can do nothing, or is not there.
func (p *past) next(task int) (api.Event, bool) {
	var e api.Event
	lanes, shards := p.c.Lanes, p.c.Shards
	switch {
	case task == 0:
		e = p.dispatcher()
	case task >= 1 && task <= lanes:
		e = p.lane(task)
	case task > lanes && task <= lanes+shards:
		shard := task - lanes - 1
		if q := p.queue(shard); len(q) > 0 {
			e = api.Event{Kind: api.EvServe, Shard: shard, Number: q[0]}
		}
	case task == lanes+shards+1:
		if l := numbers(p.told, api.EvDone)[len(numbers(p.told, api.EvGate)):]; len(l) > 0 {
			e = api.Event{Kind: api.EvGate, Number: l[0]}
			e.Count = p.mark(append(slices.Clip(p.told), e)) - p.mark(p.told)
		}
	}
	e.Task, e.Mark = task, p.mark(append(slices.Clip(p.told), e))
	return e, e.Kind != api.EvNone
}

func (p *past) dispatcher() api.Event {
	reads := p.from.Mark + len(numbers(p.told, api.EvRead))
	switch holds := p.from.Mark+len(numbers(p.told, api.EvSkip, api.EvDispatch)) < reads; {
	case !holds && reads < len(p.log):
		return api.Event{Kind: api.EvRead, Number: reads + 1}
	case holds && slices.Contains(p.from.Beyond, reads):
		return api.Event{Kind: api.EvSkip, Number: reads}
	case holds && reads-p.mark(p.told) <= p.c.Window:
		e := api.Event{Kind: api.EvDispatch, Number: reads}
		e.Count = len((&past{p.c, p.log, p.from, append(slices.Clip(p.told), e)}).awaited(reads))
		return e
	}
	return api.Event{}
}

func (p *past) lane(task int) api.Event {
	holds, sent := 0, 0
	for _, e := range p.told {
		switch {
		case e.Task != task:
		case e.Kind == api.EvTake:
			holds, sent = e.Number, 0
		case e.Kind == api.EvSend:
			sent++
		case e.Kind == api.EvDone:
			holds = 0
		}
	}
	if holds == 0 {
		if l := p.line(); len(l) > 0 {
			return api.Event{Kind: api.EvTake, Number: l[0]}
		}
		return api.Event{}
	}
	if l := counting(p.log[holds-1]); sent < len(l) {
		shard := shardOf(p.c, l[sent].Key)
		if len(p.queue(shard)) < p.c.Queue {
			return api.Event{Kind: api.EvSend, Number: holds, Shard: shard}
		}
		return api.Event{}
	}
	if p.isServed(holds) {
		return api.Event{Kind: api.EvDone, Number: holds}
	}
	return api.Event{}
}

// canCall: can this event of a call be next?
func (p *past) canCall(e api.Event) bool {
	begins := slices.Contains(numbers(p.told, api.EvBegin), e.Task)
	goesOn := begins && !slices.Contains(numbers(p.told, api.EvEnd), e.Task)
	if e.Number != e.Task || e.Mark != p.mark(p.told) {
		return false
	}
	switch e.Kind {
	case api.EvBegin:
		return !begins && e.Shard == 0 && e.Count == 0
	case api.EvAsk:
		return goesOn && e.Shard >= 0 && e.Shard < p.c.Shards && len(p.queue(e.Shard)) < p.c.Queue && e.Count == 0
	case api.EvWrite:
		return goesOn && p.isServed(e.Task) && e.Shard == 0 && e.Count >= 0
	case api.EvEnd:
		return goesOn && p.isServed(e.Task) && e.Shard == 0 && e.Count == 0
	}
	return false
}

// can: can this event be next?
func (p *past) can(e api.Event) bool {
	if e.Task < 0 {
		return p.canCall(e)
	}
	want, ok := p.next(e.Task)
	return ok && want == e
}

// canBeNext: behind these.
func canBeNext(c api.Config, log []api.Txn, from api.Saved, told []api.Event, e api.Event) bool {
	return (&past{c, log, from, told}).can(e)
}

// placeOf the first event that cannot be next; as many as there are, if all can.
func placeOf(c api.Config, log []api.Txn, from api.Saved, events []api.Event) int {
	for i, e := range events {
		if !canBeNext(c, log, from, events[:i], e) {
			return i
		}
	}
	return len(events)
}

// agrees: does Check tell that place?
func agrees(t testing.TB, c api.Config, log []api.Txn, from api.Saved, events []api.Event) int {
	t.Helper()
	want := placeOf(c, log, from, events)
	code := api.OK
	if want < len(events) {
		code = api.ErrTrace
	}
	answers(t, c, log, from, events, want, code)
	return want
}

// someKeys: few, so that they meet; one is the beginning of another, one is above all ASCII.
func someKeys() []string { return []string{"A", "a", "ab", "b", "c", "\xff"} }

// manyKeys: so many that transactions go beside one another.
func manyKeys() []string {
	l := someKeys()
	for n := range 20 {
		l = append(l, "k"+strconv.Itoa(n))
	}
	return l
}

// oneOf: one of these, by the dice.
func oneOf[T any](dice *rand.Rand, l ...T) T { return l[dice.Intn(len(l))] }

// someLog: of so many transactions, by the dice.
func someLog(dice *rand.Rand, length int) []api.Txn {
	l := make([][]api.Write, length)
	keys := someKeys()[:1+dice.Intn(6)]
	if dice.Intn(2) == 0 {
		keys = manyKeys()
	}
	for i := range l {
		for range dice.Intn(4) {
			w := drop(oneOf(dice, keys...))
			if dice.Intn(3) > 0 {
				w = put(w.Key, strconv.Itoa(i+1))
			}
			l[i] = append(l[i], w)
		}
	}
	return numbered(l...)
}

// someConfig: small ones mostly.
func someConfig(dice *rand.Rand) api.Config {
	if dice.Intn(8) == 0 {
		return like(1+dice.Intn(16), 1+dice.Intn(16), 1+dice.Intn(64), 1+dice.Intn(16))
	}
	return like(1+dice.Intn(3), 1+dice.Intn(3), 1+dice.Intn(5), 1+dice.Intn(2))
}

// someFrom: a mark, and some beyond it.
func someFrom(dice *rand.Rand, log []api.Txn) api.Saved {
	if dice.Intn(2) == 0 {
		return api.Saved{}
	}
	from := at(dice.Intn(len(log) + 1))
	for n := from.Mark + 2; n <= len(log) && n < from.Mark+8; n++ {
		if dice.Intn(2) == 0 {
			from.Beyond = append(from.Beyond, n)
		}
	}
	return from
}

// someCallEvent: an event of a call, by the dice; it may not be one that can be next.
func (p *past) someCallEvent(dice *rand.Rand) api.Event {
	n := -1 - dice.Intn(4)
	e := oneOf(dice, begin(n), ask(n, dice.Intn(p.c.Shards)), ask(n, dice.Intn(p.c.Shards)), write(n, dice.Intn(3)), end(n))
	e.Mark = p.mark(p.told)
	return e
}

// more: one event more that can be next, by the dice; false: none was found.
func (p *past) more(dice *rand.Rand) bool {
	for range 20 {
		task := dice.Intn(p.c.Lanes + p.c.Shards + 2)
		if dice.Intn(3) == 0 {
			task = 0
		}
		e, ok := p.next(task)
		if dice.Intn(6) == 0 {
			e = p.someCallEvent(dice)
			ok = p.canCall(e)
		}
		if ok {
			p.told = append(p.told, e)
			return true
		}
	}
	return false
}

// somePast: a story of at most so many events, by the dice. Some of its calls do what those of a replica never do.
func somePast(dice *rand.Rand, length, events int) *past {
	p := &past{c: someConfig(dice), log: someLog(dice, length)}
	p.from = someFrom(dice, p.log)
	for range events {
		if !p.more(dice) {
			break
		}
	}
	return p
}

// field of an event, by its number.
func field(e *api.Event, n int) *int {
	return [...]*int{&e.Task, &e.Number, &e.Shard, &e.Count, &e.Mark}[n]
}

// spoil: the events with something done to them, by the dice; what it was.
func spoil(dice *rand.Rand, events []api.Event) ([]api.Event, string) {
	l := slices.Clone(events)
	i, j := dice.Intn(len(l)), dice.Intn(len(l))
	switch dice.Intn(8) {
	case 0:
		return slices.Delete(l, i, i+1), "left out"
	case 1:
		return slices.Insert(l, i, l[j]), "put in"
	case 2:
		l[i], l[j] = l[j], l[i]
		return l, "changed over"
	case 3:
		j = min(i+1, len(l)-1)
		l[i], l[j] = l[j], l[i]
		return l, "neighbours changed over"
	case 4:
		l[i].Kind = api.EventKind(dice.Intn(14))
		return l, "kind"
	case 5:
		*field(&l[i], dice.Intn(5)) = oneOf(dice, math.MinInt, math.MaxInt, 0)
		return l, "edge"
	}
	*field(&l[i], dice.Intn(5)) += 1 - 2*dice.Intn(2)
	return l, "field"
}

// P21.1: stories by the dice pass; spoilt ones stop just where the words say.
func TestStoriesByTheDice(t *testing.T) {
	kinds, stopped, still := map[api.EventKind]int{}, map[string]int{}, 0
	for seed := range int64(600) {
		dice := rand.New(rand.NewSource(seed))
		p := somePast(dice, dice.Intn(14), 20+dice.Intn(100))
		passes(t, p.c, p.log, p.from, p.told)
		for _, e := range p.told {
			kinds[e.Kind]++
		}
		for range 12 {
			if len(p.told) == 0 {
				break
			}
			l, what := spoil(dice, p.told)
			if place := agrees(t, p.c, p.log, p.from, l); place < len(l) {
				stopped[what]++
			} else {
				still++
			}
		}
	}
	for kind := api.EvRead; kind <= api.EvEnd; kind++ {
		if kinds[kind] < 200 {
			t.Errorf("the kind %d: %d times", kind, kinds[kind])
		}
	}
	for _, what := range []string{"left out", "put in", "changed over", "neighbours changed over", "kind", "edge", "field"} {
		if stopped[what] < 100 {
			t.Errorf("%s: %d times stopped", what, stopped[what])
		}
	}
	if still < 100 {
		t.Errorf("%d spoilt ones passed", still)
	}
}

// everyEvent: all events whose fields are near those of a story.
func (p *past) everyEvent(yield func(e api.Event) bool) {
	for task := -2; task <= p.c.Lanes+p.c.Shards+2; task++ {
		for kind := api.EvNone; kind <= api.EvEnd+1; kind++ {
			for number := -2; number <= len(p.log)+1; number++ {
				for shard := -1; shard <= p.c.Shards; shard++ {
					for count := -1; count <= 2; count++ {
						for mark := range len(p.log) + 1 {
							if !yield(api.Event{Task: task, Kind: kind, Number: number, Shard: shard, Count: count, Mark: mark}) {
								return
							}
						}
					}
				}
			}
		}
	}
}

// P21.1: at some moments of stories: of all events near them just those that the words allow can be next.
func TestEveryEvent(t *testing.T) {
	can, cannot := 0, 0
	for seed := range int64(10) {
		dice := rand.New(rand.NewSource(seed))
		p := &past{c: like(1+dice.Intn(2), 1+dice.Intn(2), 1+dice.Intn(3), 1+dice.Intn(2)), log: logT()}
		p.from = someFrom(dice, p.log)
		for range dice.Intn(30) {
			p.more(dice)
		}
		next := map[int]api.Event{}
		for task := range p.c.Lanes + p.c.Shards + 2 {
			if e, ok := p.next(task); ok {
				next[task] = e
			}
		}
		told := len(p.told)
		for e := range p.everyEvent {
			x, ok := next[e.Task]
			want := ok && x == e
			if e.Task < 0 && e.Number == e.Task && e.Kind >= api.EvBegin { // others cannot: not to ask so often
				want = p.canCall(e)
			}
			l := append(p.told[:told:told], e)
			switch n, code := trace.Check(p.c, p.log, p.from, l); {
			case want && n == told+1 && code == api.OK:
				can++
			case !want && n == told && code == api.ErrTrace:
				cannot++
			default:
				t.Fatalf("seed %d: %+v behind %+v: %d, %v, want %v", seed, e, p.told, n, code, want)
			}
		}
	}
	if can < 40 || cannot < 100000 {
		t.Errorf("%d can be next, %d cannot", can, cannot)
	}
}

// state: all that what comes hangs on, calls aside, as text.
func (p *past) state() string {
	var next []api.Event
	for task := range p.c.Lanes + p.c.Shards + 2 {
		e, _ := p.next(task)
		next = append(next, e)
	}
	var queues [][]int
	for shard := range p.c.Shards {
		queues = append(queues, p.queue(shard))
	}
	gone := numbers(p.told, api.EvGate)
	slices.Sort(gone)
	return fmt.Sprint(next, queues, p.line(), gone, numbers(p.told, api.EvDone)[len(gone):], len(numbers(p.told, api.EvRead)), len(numbers(p.told, api.EvSend)))
}

// P21.1, P21.3: all moments to which schedules of small logs lead, each by one way to it: each task's next step passes, and none of it with a field spoilt.
func TestEverySchedule(t *testing.T) {
	twins := numbered(ws(put("a", "1"), put("b", "1"), put("a", "2")), nil, ws(put("b", "3")))
	for i, p := range []past{
		{c: one(), log: logT()},
		{c: like(2, 2, 4, 1), log: logT()},
		{c: like(2, 1, 1, 1), log: logT()},
		{c: like(2, 1, 2, 2), log: twins},
		{c: like(2, 2, 4, 1), log: logT(), from: at(0, 2)},
		{c: like(1, 1, 1, 1), log: logT(), from: at(1, 3)},
	} {
		seen := map[string]struct{}{}
		ways := [][]api.Event{nil}
		for len(ways) > 0 {
			p.told = ways[len(ways)-1]
			ways = ways[:len(ways)-1]
			if _, ok := seen[p.state()]; ok {
				continue
			}
			seen[p.state()] = struct{}{}
			answers(t, p.c, p.log, p.from, p.told, len(p.told), api.OK)
			for task := range p.c.Lanes + p.c.Shards + 2 {
				e, ok := p.next(task)
				if !ok {
					continue
				}
				ways = append(ways, append(slices.Clone(p.told), e))
				for _, x := range spoiled(e) {
					if !p.can(x) {
						answers(t, p.c, p.log, p.from, append(slices.Clone(p.told), x), len(p.told), api.ErrTrace)
					}
				}
			}
		}
		t.Logf("row %d: %d moments", i, len(seen))
		if len(seen) < 10 {
			t.Errorf("row %d: %d moments", i, len(seen))
		}
	}
}

// logOf: a log that bytes tell: each is a write, and some of them end a transaction.
func logOf(b []byte) []api.Txn {
	l := [][]api.Write{nil}
	for _, x := range b {
		w := put(someKeys()[int(x)%6], strconv.Itoa(len(l)))
		if x/6%4 == 0 {
			w = drop(w.Key)
		}
		last := len(l) - 1
		l[last] = append(l[last], w)
		if x >= 128 || len(l[last]) == api.MaxWrites {
			l = append(l, nil)
		}
	}
	return numbered(l...)
}

// FuzzStory holds Check against the words, by events that bytes tell: of most of them what their task does next, some spoilt.
func FuzzStory(f *testing.F) {
	f.Add([]byte{1, 1, 3, 0, 0}, []byte{1, 2, 130, 4, 9, 200, 7}, []byte{0, 0, 1, 1, 3, 1, 5, 0, 0, 2, 2, 3, 240, 241, 3, 250})
	f.Add([]byte{0, 0, 0, 0, 9}, []byte{129, 130, 129, 255, 7}, []byte{0, 0, 0, 0, 1, 1, 2, 1, 3, 100, 0, 0})
	f.Fuzz(func(t *testing.T, shape, writes, moves []byte) {
		if len(shape) < 5 || len(writes) > 60 || len(moves) > 120 {
			return
		}
		p := &past{c: like(1+int(shape[0]%4), 1+int(shape[1]%4), 1+int(shape[2]%8), 1+int(shape[3]%3)), log: logOf(writes)}
		if x := int(shape[4]); x > 0 && len(p.log) > 2 {
			p.from = at(x%(len(p.log)-1), x%(len(p.log)-1)+2)
		}
		tasks := p.c.Lanes + p.c.Shards + 2
		for _, m := range moves {
			e, _ := p.next(int(m) % tasks)
			switch {
			case m >= 230:
				n := -1 - int(m)%3
				e = []api.Event{begin(n), ask(n, int(m)%p.c.Shards), write(n, 1), end(n)}[int(m)/3%4]
				e.Mark = p.mark(p.told)
			case m >= 200:
				*field(&e, int(m)%5)++
			}
			p.told = append(p.told, e)
			if agrees(t, p.c, p.log, p.from, p.told) < len(p.told) {
				p.told = p.told[:len(p.told)-1]
			}
		}
	})
}
