package script

import (
	"towpath/api"
	"towpath/disk"
	"towpath/logfile"
	"towpath/replica"
	"towpath/stat"
)

// world is what the lines ahead have made. Its deeds are those of the rows, and tell their answers.
type world struct {
	conf     api.Config
	capacity int
	log      []api.Txn
	disk     *disk.Disk
	replica  *replica.Replica
	events   []api.Event // all that this replica told
}

func (w *world) config(x words) string {
	w.conf, w.capacity = x.conf, x.capacity
	return called(api.OK)
}

func (w *world) txn(x words) string {
	w.log = append(w.log, x.txn)
	return called(api.OK, x.txn.Number)
}

func (w *world) open(words) string {
	w.disk, _ = disk.New(w.capacity) // not refused: the row asks for one that may be
	return w.begin()
}

// begin: a replica over a new source of the log and the disk.
func (w *world) begin() string {
	s, _ := logfile.New(w.log) // not refused: each row gave a transaction in its turn
	r, wrong := replica.New(w.conf, s, w.disk)
	w.replica, w.events = r, nil
	return called(wrong, r.Mark())
}

func (w *world) feed(x words) string {
	return called(w.replica.Feed(x.number))
}

func (w *world) pick(x words) string {
	e, wrong := w.step(x.number)
	if wrong != api.OK {
		return called(wrong)
	}
	return told("event", e.Task, int(e.Kind), e.Number, e.Shard, e.Count, e.Mark)
}

// run ends where no task can do anything, also for the disk is cut: neither is an error of it.
func (w *world) run(x words) string {
	steps := 0
	for steps < x.number {
		if _, wrong := w.step(0); wrong != api.OK {
			break
		}
		steps++
	}
	return called(api.OK, steps)
}

// step: one is picked; what it told is kept in mind.
func (w *world) step(pick int) (api.Event, api.Errno) {
	e, wrong := w.replica.Pick(pick)
	if wrong == api.OK {
		w.events = append(w.events, e)
	}
	return e, wrong
}

func (w *world) call(x words) string {
	number, wrong := w.replica.Call(x.call)
	return called(wrong, number)
}

func (w *world) answer(x words) string {
	a, ok := w.replica.Answer(x.number)
	if !ok {
		return "none"
	}
	isOK := 0
	if a.OK {
		isOK = 1
	}
	return listed(told("answer", int(a.Code), a.Mark, isOK, a.Count), a.Entries)
}

func (w *world) mark(words) string {
	return called(api.OK, w.replica.Mark())
}

func (w *world) held(words) string {
	return told("held", w.replica.Held()...)
}

func (w *world) store(words) string {
	return listed("store", w.replica.Store())
}

func (w *world) cut(x words) string {
	return called(w.disk.Cut(x.number))
}

func (w *world) crash(words) string {
	w.disk.Mend()
	return w.begin()
}

func (w *world) close(words) string {
	w.replica.Close()
	return called(api.OK)
}

func (w *world) stat(words) string {
	s, wrong := stat.Of(w.conf, w.events)
	if wrong != api.OK {
		return called(wrong)
	}
	return told("stat", s.Steps, s.Installs, s.Lag, s.Busy, s.Reads)
}
