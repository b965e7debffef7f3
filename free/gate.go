package free

import (
	"slices"

	"towpath/gate"
)

// gating is what the gate alone knows.
type gating struct {
	*run
	gate  *gate.Gate
	inUse []int // marks at which calls began that have not ended, the one that began first first: so they do not fall
}

// gate: the task that says up to where all is there, to the dispatcher and to calls that begin. It ends when there are no lanes and no calls any more.
func (r *run) gate() {
	none, _ := gate.New(0, nil)
	g := gating{run: r, gate: none}
	done, ends := r.done, r.ends // off, once nothing comes from there any more
	for done != nil || ends != nil {
		select {
		case number, more := <-done:
			if !more {
				done = nil
				continue
			}
			g.pass(number)
		case r.begins <- g.next():
			g.inUse = append(g.inUse, g.gate.Mark())
		case mark, more := <-ends:
			if !more {
				ends = nil
				continue
			}
			g.end(mark)
		}
	}
}

// pass: all writes of one are installed.
func (g *gating) pass(number int) {
	g.gate.Done(number)
	g.passed <- passage{number, g.gate.Mark()}
}

// next: how a call begins that does so now. Marks do not go down, so the least one in use is that of the call that began first.
func (g *gating) next() start {
	s := start{mark: g.gate.Mark(), least: g.gate.Mark()}
	if len(g.inUse) > 0 {
		s.least = g.inUse[0]
	}
	return s
}

// end: a call that began at this mark has ended, whichever of those it is.
func (g *gating) end(mark int) {
	at := slices.Index(g.inUse, mark)
	g.inUse = slices.Delete(g.inUse, at, at+1)
}
