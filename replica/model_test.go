package replica_test

import (
	"bytes"
	"fmt"
	"hash/fnv"
	"maps"
	"slices"
	"strings"
	"testing"

	"towpath/api"
	"towpath/disk"
	"towpath/logfile"
	"towpath/replica"
	"towpath/slots"
)

// plain is a replica by the words of DOC.md and of the chapter, told as plainly as can be. It has a disk of its own.
type plain struct {
	c      api.Config
	log    []api.Txn
	d      *disk.Disk
	mark   int
	beyond map[int]bool
	first  map[int]bool // what was beyond from the beginning
	fed    int
	asked  []int
	begins int // the mark at the beginning
	holds  int // the record that the dispatcher holds
	closed bool
	dead   bool
	added  []int                // dispatched, in order
	waits  map[int]map[int]bool // of each open one, for whom it waits
	line   []int
	passed []int
	lanes  []plainLane
	queues [][]api.Req
	has    map[string]map[int]api.Version
	calls  []*plainCall
}

type plainLane struct {
	number int
	left   []api.Write
	out    int
}

type plainCall struct {
	x            api.Call
	begun, ended bool
	mark, least  int
	beyond       []int
	left         []int // shards that are to be asked
	out          int
	held         []api.Held
	saver        *slots.Saver
	answer       api.Answer
}

// newPlain: over a disk, of what is there.
func newPlain(c api.Config, log []api.Txn, d *disk.Disk) *plain {
	saved, _, _, _, _ := slots.Newest(d)
	p := &plain{c: c, log: log, d: d, mark: saved.Mark, begins: saved.Mark, fed: saved.Mark, beyond: map[int]bool{}, first: map[int]bool{}, waits: map[int]map[int]bool{}, has: map[string]map[int]api.Version{}}
	for _, n := range saved.Beyond {
		p.beyond[n], p.first[n] = true, true
	}
	p.lanes = make([]plainLane, c.Lanes)
	p.queues = make([][]api.Req, c.Shards)
	for _, h := range saved.Held {
		for _, v := range h.Versions {
			p.install(h.Key, v)
		}
	}
	return p
}

// install: a version of a key; false: it has one of that number.
func (p *plain) install(key string, v api.Version) bool {
	if p.has[key] == nil {
		p.has[key] = map[int]api.Version{}
	}
	if _, ok := p.has[key][v.Number]; ok {
		return false
	}
	p.has[key][v.Number] = v
	return true
}

// shard of a key, by the library's FNV-1a.
func (p *plain) shard(key string) int {
	h := fnv.New32a()
	h.Write([]byte(key))
	return int(h.Sum32() % uint32(p.c.Shards))
}

// keys of a shard in a stretch, rising; of all shards, if it is below 0.
func (p *plain) keys(shard int, key, end string) []string {
	var l []string
	for _, k := range slices.Sorted(maps.Keys(p.has)) {
		if (shard < 0 || p.shard(k) == shard) && k >= key && (end == "" || k < end) {
			l = append(l, k)
		}
	}
	return l
}

// at: the newest version of a key at a mark; 0 is its number, if there is none.
func (p *plain) at(key string, mark int) api.Version {
	var newest api.Version
	for n, v := range p.has[key] {
		if n <= mark && n > newest.Number {
			newest = v
		}
	}
	return newest
}

// entries of a stretch of a shard at a mark.
func (p *plain) entries(shard int, key, end string, mark int) []api.Entry {
	var l []api.Entry
	for _, k := range p.keys(shard, key, end) {
		if v := p.at(k, mark); v.Number > 0 && !v.Drop {
			l = append(l, api.Entry{Key: k, Val: v.Val})
		}
	}
	return l
}

// versions of a shard that are so, by rising keys.
func (p *plain) versions(shard int, is func(key string, v api.Version) bool) []api.Held {
	var l []api.Held
	for _, k := range p.keys(shard, "", "") {
		h := api.Held{Key: k}
		for _, n := range slices.Sorted(maps.Keys(p.has[k])) {
			if v := p.has[k][n]; is(k, v) {
				h.Versions = append(h.Versions, v)
			}
		}
		if len(h.Versions) > 0 {
			l = append(l, h)
		}
	}
	return l
}

// txn of a number.
func (p *plain) txn(number int) api.Txn { return p.log[number-1] }

// counting: the writes that count.
func counting(t api.Txn) []api.Write {
	var l []api.Write
	for i, w := range t.Writes {
		if !slices.ContainsFunc(t.Writes[i+1:], func(x api.Write) bool { return x.Key == w.Key }) {
			l = append(l, w)
		}
	}
	return l
}

// writes: does a transaction write a key?
func writes(t api.Txn, key string) bool {
	return slices.ContainsFunc(t.Writes, func(w api.Write) bool { return w.Key == key })
}

// awaited: the open ones that wrote one of its keys last.
func (p *plain) awaited(t api.Txn) map[int]bool {
	l := map[int]bool{}
	for _, w := range t.Writes {
		last := 0
		for _, n := range p.added {
			if writes(p.txn(n), w.Key) {
				last = n
			}
		}
		if p.waits[last] != nil {
			l[last] = true
		}
	}
	return l
}

// deed: what a task can do now; nil: nothing.
func (p *plain) deed(task int) func() api.Event {
	lanes, shards := p.c.Lanes, p.c.Shards
	switch {
	case p.dead:
		return nil
	case task == 0:
		return p.dispatcher()
	case task >= 1 && task <= lanes:
		return p.lane(task)
	case task > lanes && task <= lanes+shards:
		return p.owner(task - lanes - 1)
	case task == lanes+shards+1:
		return p.gate()
	case task < 0 && task >= -len(p.calls):
		return p.call(task)
	}
	return nil
}

func (p *plain) dispatcher() func() api.Event {
	number := p.holds
	switch {
	case number == 0 && !p.closed && p.begins+len(p.asked) < p.fed:
		return func() api.Event {
			p.holds = p.begins + len(p.asked) + 1
			p.asked = append(p.asked, p.holds)
			return api.Event{Kind: api.EvRead, Number: p.holds}
		}
	case number > 0 && p.first[number]:
		return func() api.Event {
			p.holds = 0
			return api.Event{Kind: api.EvSkip, Number: number}
		}
	case number > 0 && number <= p.mark+p.c.Window:
		return func() api.Event {
			p.holds = 0
			p.waits[number] = p.awaited(p.txn(number))
			p.added = append(p.added, number)
			if len(p.waits[number]) == 0 {
				p.line = append(p.line, number)
			}
			return api.Event{Kind: api.EvDispatch, Number: number, Count: len(p.waits[number])}
		}
	}
	return nil
}

func (p *plain) lane(task int) func() api.Event {
	l := &p.lanes[task-1]
	switch {
	case l.number == 0 && len(p.line) > 0:
		return func() api.Event {
			*l = plainLane{number: p.line[0], left: counting(p.txn(p.line[0]))}
			p.line = p.line[1:]
			return api.Event{Kind: api.EvTake, Number: l.number}
		}
	case len(l.left) > 0:
		w := l.left[0]
		shard := p.shard(w.Key)
		if len(p.queues[shard]) == p.c.Queue {
			return nil
		}
		return func() api.Event {
			p.queues[shard] = append(p.queues[shard], api.Req{Kind: api.ReqInstall, From: task, Number: l.number, Write: w})
			l.left = l.left[1:]
			l.out++
			return api.Event{Kind: api.EvSend, Number: l.number, Shard: shard}
		}
	case l.number > 0 && l.out == 0:
		return func() api.Event {
			n := l.number
			*l = plainLane{}
			p.passed = append(p.passed, n)
			return api.Event{Kind: api.EvDone, Number: n}
		}
	}
	return nil
}

func (p *plain) owner(shard int) func() api.Event {
	if len(p.queues[shard]) == 0 {
		return nil
	}
	return func() api.Event {
		q := p.queues[shard][0]
		p.queues[shard] = p.queues[shard][1:]
		e := api.Event{Kind: api.EvServe, Shard: shard, Number: q.From}
		if q.Kind == api.ReqInstall {
			p.install(q.Write.Key, api.Version{Number: q.Number, Val: q.Write.Val, Drop: q.Write.Drop})
			p.lanes[q.From-1].out--
			e.Number = q.Number
			return e
		}
		p.serve(shard, p.calls[-q.From-1])
		return e
	}
}

// serve: the request of a call.
func (p *plain) serve(shard int, k *plainCall) {
	switch k.x.Kind {
	case api.CallGet:
		k.answer.Entries = p.entries(shard, k.x.Key, k.x.Key+"\x00", k.mark)
	case api.CallScan:
		k.answer.Entries = append(k.answer.Entries, p.entries(shard, k.x.Key, k.x.End, k.mark)...)
	case api.CallCollect:
		for _, key := range p.keys(shard, "", "") {
			newest := p.at(key, k.least).Number
			maps.DeleteFunc(p.has[key], func(n int, _ api.Version) bool {
				if n < newest {
					k.answer.Count++
				}
				return n < newest
			})
		}
	case api.CallSave:
		k.held = append(k.held, p.versions(shard, func(key string, v api.Version) bool {
			return !v.Drop && v == p.at(key, k.mark) || v.Number > k.mark && slices.Contains(k.beyond, v.Number)
		})...)
	}
	k.out--
	if k.out == 0 && len(k.left) == 0 {
		p.come(k)
	}
}

// come: all replies are there.
func (p *plain) come(k *plainCall) {
	slices.SortFunc(k.answer.Entries, func(a, b api.Entry) int { return strings.Compare(a.Key, b.Key) })
	slices.SortFunc(k.held, func(a, b api.Held) int { return strings.Compare(a.Key, b.Key) })
	k.answer.Mark = k.mark
	k.answer.OK = k.x.Kind != api.CallGet || len(k.answer.Entries) == 1
	if k.x.Kind != api.CallSave {
		return
	}
	var e api.Errno
	k.saver, e = slots.New(p.d, api.Saved{Mark: k.mark, Beyond: k.beyond, Held: k.held})
	if e != api.OK {
		k.answer = api.Answer{Code: e, Mark: k.mark}
	}
}

func (p *plain) gate() func() api.Event {
	if len(p.passed) == 0 {
		return nil
	}
	return func() api.Event {
		n, was := p.passed[0], p.mark
		p.passed = p.passed[1:]
		p.beyond[n] = true
		delete(p.waits, n)
		for _, other := range slices.Sorted(maps.Keys(p.waits)) {
			if p.waits[other][n] {
				delete(p.waits[other], n)
				if len(p.waits[other]) == 0 {
					p.line = append(p.line, other)
				}
			}
		}
		for p.beyond[p.mark+1] {
			p.mark++
			delete(p.beyond, p.mark)
		}
		return api.Event{Kind: api.EvGate, Number: n, Count: p.mark - was}
	}
}

// goesOn: has a call begun, and not ended?
func (k *plainCall) goesOn() bool { return k.begun && !k.ended }

func (p *plain) call(task int) func() api.Event {
	k := p.calls[-task-1]
	save := k.x.Kind == api.CallSave
	switch {
	case k.ended:
		return nil
	case !k.begun && save && slices.ContainsFunc(p.calls, func(o *plainCall) bool { return o.goesOn() && o.x.Kind == api.CallSave }):
		return nil
	case !k.begun:
		return func() api.Event {
			p.begin(k)
			return api.Event{Kind: api.EvBegin, Number: task}
		}
	case len(k.left) > 0:
		shard := k.left[0]
		if len(p.queues[shard]) == p.c.Queue {
			return nil
		}
		return func() api.Event {
			p.queues[shard] = append(p.queues[shard], api.Req{From: task})
			k.left = k.left[1:]
			k.out++
			return api.Event{Kind: api.EvAsk, Number: task, Shard: shard}
		}
	case k.out > 0:
		return nil
	case k.saver.Left() > 0:
		return func() api.Event {
			left := k.saver.Left() - 1
			if k.saver.Step() != api.OK {
				p.dead, k.ended = true, true
				k.answer = api.Answer{Code: api.ErrCut, Mark: k.mark}
			}
			return api.Event{Kind: api.EvWrite, Number: task, Count: left}
		}
	}
	return func() api.Event {
		k.ended = true
		return api.Event{Kind: api.EvEnd, Number: task}
	}
}

// begin: a call begins.
func (p *plain) begin(k *plainCall) {
	k.mark, k.least = p.mark, p.mark
	for _, o := range p.calls {
		if o.goesOn() {
			k.least = min(k.least, o.mark)
		}
	}
	k.beyond = slices.Sorted(maps.Keys(p.beyond))
	k.begun = true
	for shard := range p.c.Shards {
		if k.x.Kind != api.CallGet || shard == p.shard(k.x.Key) {
			k.left = append(k.left, shard)
		}
	}
}

// tasks: all numbers, in the order of tasks, calls that have ended too.
func (p *plain) tasks() []int {
	var l []int
	for n := range p.c.Lanes + p.c.Shards + 2 {
		l = append(l, n)
	}
	for n := range p.calls {
		l = append(l, -n-1)
	}
	return l
}

// ready: those that can do something now.
func (p *plain) ready() []int {
	return slices.DeleteFunc(p.tasks(), func(n int) bool { return p.deed(n) == nil })
}

// step: of a task.
func (p *plain) step(task int) (api.Event, api.Errno) {
	deed := p.deed(task)
	switch {
	case p.dead:
		return api.Event{}, api.ErrCut
	case !slices.Contains(p.tasks(), task):
		return api.Event{}, api.ErrArg
	case deed == nil:
		return api.Event{}, api.ErrBusy
	}
	e := deed()
	e.Task, e.Mark = task, p.mark
	return e, api.OK
}

// pick: one that can.
func (p *plain) pick(n int) (api.Event, api.Errno) {
	l := p.ready()
	switch {
	case p.dead:
		return api.Event{}, api.ErrCut
	case len(l) == 0:
		return api.Event{}, api.ErrIdle
	}
	return p.step(l[((n%len(l))+len(l))%len(l)])
}

// feed: the log goes on.
func (p *plain) feed(last int) api.Errno {
	switch {
	case p.dead:
		return api.ErrCut
	case p.closed:
		return api.ErrStopped
	case last < p.fed || last > len(p.log):
		return api.ErrArg
	}
	p.fed = last
	return api.OK
}

// under: how many calls have not ended.
func (p *plain) under() int {
	n := 0
	for _, k := range p.calls {
		if !k.ended {
			n++
		}
	}
	return n
}

// take: a call.
func (p *plain) take(x api.Call, may bool) (int, api.Errno) {
	switch {
	case p.dead:
		return 0, api.ErrCut
	case p.closed:
		return 0, api.ErrStopped
	case !may:
		return 0, api.ErrArg
	case p.under() == api.MaxCalls:
		return 0, api.ErrFull
	}
	p.calls = append(p.calls, &plainCall{x: x})
	return -len(p.calls), api.OK
}

// over: by the words of P20.9.
func (p *plain) over() bool {
	all := p.closed || p.begins+len(p.asked) == p.fed
	return p.dead || p.holds == 0 && all && len(p.waits) == 0 && p.under() == 0
}

// state: all that what comes hangs on, as text.
func (p *plain) state() string {
	s := fmt.Sprint(p.mark, p.beyond, p.fed, len(p.asked), p.holds, p.closed, p.dead, p.waits, p.line, p.passed, p.lanes, p.queues, p.has, p.added)
	for _, k := range p.calls {
		s += fmt.Sprint(k.begun, k.ended, k.mark, k.least, k.beyond, k.left, k.out, k.saver.Left(), k.answer)
	}
	return s
}

// both are a replica and its model, with a source and a disk each.
type both struct {
	t testing.TB
	r *replica.Replica
	s *logfile.Source
	d *disk.Disk
	p *plain
}

// newBoth: over new disks of this capacity.
func newBoth(t testing.TB, c api.Config, log []api.Txn, capacity int) *both {
	t.Helper()
	b := &both{t: t, d: diskOf(t, capacity), p: &plain{d: diskOf(t, capacity)}}
	b.crash(c, log)
	return b
}

// crash: both are left as they stand; others go on from the disks, which are mended.
func (b *both) crash(c api.Config, log []api.Txn) {
	b.t.Helper()
	b.d.Mend()
	b.p.d.Mend()
	b.s = sourceOf(b.t, log)
	r, e := replica.New(c, b.s, b.d)
	if e != api.OK {
		b.t.Fatalf("New = %v", e)
	}
	b.r, b.p = r, newPlain(c, log, b.p.d)
	b.alike()
}

// cut: both disks, behind so many raw writes.
func (b *both) cut(n int) {
	b.d.Cut(n)
	b.p.d.Cut(n)
}

// step: of a task, by both.
func (b *both) step(task int) (api.Event, api.Errno) {
	b.t.Helper()
	want, wrong := b.p.step(task)
	got, e := b.r.Step(task)
	if got != want || e != wrong {
		b.t.Fatalf("Step(%d) = %+v, %v, want %+v, %v", task, got, e, want, wrong)
	}
	return got, e
}

// pick: by both.
func (b *both) pick(n int) (api.Event, api.Errno) {
	b.t.Helper()
	want, wrong := b.p.pick(n)
	got, e := b.r.Pick(n)
	if got != want || e != wrong {
		b.t.Fatalf("Pick(%d) = %+v, %v, want %+v, %v", n, got, e, want, wrong)
	}
	return got, e
}

// feed: by both.
func (b *both) feed(last int) api.Errno {
	b.t.Helper()
	want := b.p.feed(last)
	if e := b.r.Feed(last); e != want {
		b.t.Fatalf("Feed(%d) = %v, want %v", last, e, want)
	}
	return want
}

// call: by both; may: there may be such a call.
func (b *both) call(x api.Call, may bool) (int, api.Errno) {
	b.t.Helper()
	want, wrong := b.p.take(x, may)
	n, e := b.r.Call(x)
	if n != want || e != wrong {
		b.t.Fatalf("Call(%+v) = %d, %v, want %d, %v", x, n, e, want, wrong)
	}
	return n, e
}

// close: both.
func (b *both) close() {
	b.p.closed = true
	b.r.Close()
}

// alike: do both tell the same?
func (b *both) alike() {
	b.t.Helper()
	p, r := b.p, b.r
	if l, want := r.Ready(), p.ready(); !slices.Equal(l, want) {
		b.t.Fatalf("Ready = %v, want %v", l, want)
	}
	if r.Mark() != p.mark || r.Over() != p.over() || r.Over() != (len(r.Ready()) == 0) {
		b.t.Fatalf("Mark = %d, Over = %v, want %d, %v", r.Mark(), r.Over(), p.mark, p.over())
	}
	var held []int
	for _, l := range p.lanes {
		if l.number > 0 {
			held = append(held, l.number)
		}
	}
	slices.Sort(held)
	if l := r.Held(); !slices.Equal(l, held) {
		b.t.Fatalf("Held = %v, want %v", l, held)
	}
	if l, want := r.Store(), p.entries(-1, "", "", p.mark); !slices.Equal(l, want) {
		b.t.Fatalf("Store = %v, want %v", l, want)
	}
	if l, want := r.Versions(), p.versions(-1, func(string, api.Version) bool { return true }); !sameHeld(l, want) {
		b.t.Fatalf("Versions = %v, want %v", l, want)
	}
	if l := b.s.Asked(); !slices.Equal(l, p.asked) {
		b.t.Fatalf("Asked = %v, want %v", l, p.asked)
	}
	b.answersAlike()
	b.disksAlike()
}

// answersAlike: of all calls, and of numbers that are none's.
func (b *both) answersAlike() {
	b.t.Helper()
	for n := -len(b.p.calls) - 1; n <= b.p.c.Lanes+b.p.c.Shards+2; n++ {
		var want api.Answer
		ended := false
		if n < 0 && n >= -len(b.p.calls) && b.p.calls[-n-1].ended {
			want, ended = b.p.calls[-n-1].answer, true
		}
		if a, ok := b.r.Answer(n); ok != ended || !sameAnswer(a, want) {
			b.t.Fatalf("Answer(%d) = %+v, %v, want %+v, %v", n, a, ok, want, ended)
		}
	}
}

// disksAlike: have both disks the same bytes?
func (b *both) disksAlike() {
	b.t.Helper()
	if b.d.Writes() != b.p.d.Writes() || b.d.Dead() != b.p.d.Dead() {
		b.t.Fatalf("the disk: %d raw writes, dead %v, want %d, %v", b.d.Writes(), b.d.Dead(), b.p.d.Writes(), b.p.d.Dead())
	}
	for slot := range 2 {
		x, _ := b.d.Read(slot)
		y, _ := b.p.d.Read(slot)
		if !bytes.Equal(x, y) {
			b.t.Fatalf("slot %d: %x, want %x", slot, x, y)
		}
	}
}
