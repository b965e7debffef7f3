package replica

import (
	"towpath/api"
	"towpath/lane"
	"towpath/owner"
)

// task is one of those that do a replica's steps.
type task interface {
	number() int
	// can: the kind of the step that it can do now; EvNone: it can do nothing.
	can() api.EventKind
	// step does the step of that kind, which it can do now. It tells the fields of the event that are the kind's own.
	step(kind api.EventKind) api.Event
	// hear takes a reply to what it asked. It tells whom the owner's event names.
	hear(reply api.Resp) int
}

// seat is what all tasks have: the machine that they are in, and a number there.
type seat struct {
	*machine
	at int
}

func (s seat) number() int { return s.at }

// hear: most tasks ask nothing, so they hear nothing.
func (s seat) hear(api.Resp) int { return 0 }

// dispatcher reads the log, and hands on what it reads.
type dispatcher struct{ seat }

func (d *dispatcher) can() api.EventKind {
	return d.feed.Can(d.gate.Mark())
}

func (d *dispatcher) step(kind api.EventKind) api.Event {
	number, waits := 0, 0
	switch kind {
	case api.EvRead:
		number, _ = d.feed.Read()
	case api.EvSkip:
		number, _ = d.feed.Skip()
	case api.EvDispatch:
		number, waits = d.dispatch()
	}
	return api.Event{Number: number, Count: waits}
}

// dispatch: what is held is open; its number, and for how many it waits.
func (d *dispatcher) dispatch() (int, int) {
	t, _ := d.feed.Dispatch(d.gate.Mark())
	waits, _ := d.deps.Add(t)
	d.waiting[t.Number] = t
	if waits == 0 {
		d.free(t.Number)
	}
	return t.Number, waits
}

// worker is the task of a lane.
type worker struct {
	seat
	lane *lane.Lane
}

func (w *worker) can() api.EventKind {
	shard, _, more := w.lane.Next()
	switch {
	case w.lane.Holds() == 0 && w.line.Len() > 0:
		return api.EvTake
	case more && w.owners[shard].Room() > 0:
		return api.EvSend
	case w.lane.Ready():
		return api.EvDone
	}
	return api.EvNone
}

func (w *worker) step(kind api.EventKind) api.Event {
	switch kind {
	case api.EvTake:
		t, _ := w.line.Take()
		w.lane.Take(t)
		return api.Event{Number: t.Number}
	case api.EvSend:
		shard, request, _ := w.lane.Next()
		w.owners[shard].Ask(request)
		w.lane.Sent()
		return api.Event{Number: request.Number, Shard: shard}
	}
	number, _ := w.lane.Done()
	w.passed.Put(number)
	return api.Event{Number: number}
}

// hear: a write is installed.
func (w *worker) hear(api.Resp) int {
	w.lane.Acked()
	return w.lane.Holds()
}

// keeper is the task of a shard's owner.
type keeper struct {
	seat
	shard int
	owner *owner.Owner
}

func (k *keeper) can() api.EventKind {
	if k.owner.Len() == 0 {
		return api.EvNone
	}
	return api.EvServe
}

func (k *keeper) step(api.EventKind) api.Event {
	e := api.Event{Shard: k.shard}
	reply, _ := k.owner.Serve()
	if t, ok := k.find(reply.To); ok { // a call does not end while it waits for a reply
		e.Number = t.hear(reply)
	}
	return e
}

// warden is the task of the gate.
type warden struct{ seat }

func (w *warden) can() api.EventKind {
	if w.passed.Len() == 0 {
		return api.EvNone
	}
	return api.EvGate
}

func (w *warden) step(api.EventKind) api.Event {
	number, _ := w.passed.Take()
	up, _ := w.gate.Done(number)
	rising, _ := w.deps.Done(number)
	for _, n := range rising {
		w.free(n)
	}
	return api.Event{Number: number, Count: up}
}
