package stat

import "towpath/api"

// lanes of a configuration, the lane 1 first: does it hold a transaction?
type lanes []bool

// see an event, behind which a lane may hold one, or none any more.
func (l lanes) see(e api.Event) {
	if e.Task < 1 || e.Task > len(l) {
		return
	}
	switch e.Kind {
	case api.EvTake:
		l[e.Task-1] = true
	case api.EvDone:
		l[e.Task-1] = false
	}
}

// busy: how many hold one.
func (l lanes) busy() int {
	many := 0
	for _, holds := range l {
		if holds {
			many++
		}
	}
	return many
}
