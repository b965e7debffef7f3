package replica

import (
	"towpath/api"
	"towpath/call"
	"towpath/slots"
)

// caller is the task of a call.
type caller struct {
	seat
	asks   *call.Task
	isSave bool
	// beyond is what was beyond the mark when a Save began.
	beyond []int
	saver  *slots.Saver // nil, which has no raw writes, of all but a Save whose replies are there
	answer api.Answer   // once all replies are there
}

// newCaller: of a call that may be.
func newCaller(s seat, x api.Call) *caller {
	asks, _ := call.New(s.at, s.conf, x)
	return &caller{seat: s, asks: asks, isSave: x.Kind == api.CallSave}
}

func (c *caller) begun() bool {
	_, begun := c.asks.Mark()
	return begun
}

func (c *caller) can() api.EventKind {
	shard, _, more := c.asks.Next()
	switch {
	case !c.begun() && c.isSave && c.isSaving():
		return api.EvNone
	case !c.begun():
		return api.EvBegin
	case more && c.owners[shard].Room() > 0:
		return api.EvAsk
	case c.asks.All() && c.saver.Left() > 0:
		return api.EvWrite
	case c.asks.All():
		return api.EvEnd
	}
	return api.EvNone
}

func (c *caller) step(kind api.EventKind) api.Event {
	e := api.Event{Number: c.at}
	switch kind {
	case api.EvBegin:
		c.begin()
	case api.EvAsk:
		shard, request, _ := c.asks.Next()
		c.owners[shard].Ask(request)
		c.asks.Sent()
		e.Shard = shard
	case api.EvWrite:
		e.Count = c.saver.Left() - 1 // whether it is done or not
		c.write()
	case api.EvEnd:
		c.end(c.at, c.answer)
	}
	return e
}

// begin: each kind of call takes what it needs of this.
func (c *caller) begin() {
	beyond := c.gate.Beyond()
	c.asks.Begin(c.gate.Mark(), c.least(), beyond)
	if c.isSave {
		c.beyond = beyond
	}
}

// write: the next raw write. One that is not done is the end of the replica.
func (c *caller) write() {
	if c.saver.Step() != api.OK {
		c.dead = true
		c.refuse(api.ErrCut)
		c.end(c.at, c.answer)
	}
}

// refuse: a Save comes to nothing.
func (c *caller) refuse(code api.Errno) {
	c.answer = api.Answer{Code: code, Mark: c.answer.Mark}
}

// hear: with the last reply it is told what the call comes to, and what a Save has to write.
func (c *caller) hear(reply api.Resp) int {
	c.asks.Got(reply)
	if c.asks.All() {
		var held []api.Held
		c.answer, held, _ = c.asks.Answer()
		if c.isSave {
			c.save(api.Saved{Mark: c.answer.Mark, Beyond: c.beyond, Held: held})
		}
	}
	return c.at
}

// save: what is to be saved is there.
func (c *caller) save(s api.Saved) {
	saver, wrong := slots.New(c.disk, s)
	if wrong != api.OK {
		c.refuse(wrong)
		return
	}
	c.saver = saver
}
