package free

import (
	"towpath/api"
	"towpath/deps"
)

// dispatching is what the dispatcher alone knows.
type dispatching struct {
	*run
	table  *deps.Table
	newest int       // the newest one dispatched
	mark   int       // as the gate has told it: the gate may be ahead of that, never behind
	ready  []api.Txn // those that wait for none, and for a lane, the first one first
}

// dispatcher: the task that hands transactions to lanes, within the window, none ahead of one that it waits for. It ends when all are there, for till then the gate has something to tell it.
func (r *run) dispatcher() {
	defer close(r.line)
	d := dispatching{run: r, table: deps.New()}
	for d.mark < len(d.log) {
		d.dispatch()
		d.exchange()
	}
}

// dispatch all that the window has room for.
func (d *dispatching) dispatch() {
	for d.newest < min(len(d.log), d.mark+d.conf.Window) {
		t := d.log[d.newest]
		d.newest = t.Number
		if waits, _ := d.table.Add(t); waits == 0 {
			d.ready = append(d.ready, t)
		}
	}
}

// exchange: a lane takes the first one that is ready, or the gate tells that one is there.
func (d *dispatching) exchange() {
	var line chan<- api.Txn // off, while none is ready
	var first api.Txn
	if len(d.ready) > 0 {
		line, first = d.line, d.ready[0]
	}
	select {
	case line <- first:
		d.ready = d.ready[1:]
	case p := <-d.passed:
		d.mark = p.mark
		d.end(p.number)
	}
}

// end: one is there, so those that waited for it alone are ready.
func (d *dispatching) end(number int) {
	free, _ := d.table.Done(number)
	for _, n := range free {
		d.ready = append(d.ready, d.log[n-1])
	}
}
