package stat

import "towpath/api"

// row is a field of the stats, and what it is reckoned by.
type row struct {
	field *int
	// behind an event: what the field is then, having been so much ahead of it.
	behind func(ahead int, e api.Event) int
}

// rows of all fields. They are asked of an event once the lanes have seen it.
func rows(s *api.Stats, l lanes) [5]row {
	return [...]row{
		{&s.Steps, func(ahead int, _ api.Event) int { return ahead + 1 }},
		{&s.Installs, func(ahead int, e api.Event) int { return ahead + told(e).Installs }},
		{&s.Lag, func(ahead int, e api.Event) int { return max(ahead, told(e).Lag) }},
		{&s.Busy, func(ahead int, _ api.Event) int { return max(ahead, l.busy()) }},
		{&s.Reads, func(ahead int, e api.Event) int { return ahead + told(e).Reads }},
	}
}

// told by an event alone, whatever was ahead of it.
func told(e api.Event) api.Stats {
	switch e.Kind {
	case api.EvDispatch:
		return api.Stats{Lag: lag(e)}
	case api.EvServe:
		if e.Number > 0 { // those of calls are below 0
			return api.Stats{Installs: 1}
		}
	case api.EvEnd:
		return api.Stats{Reads: 1}
	}
	return api.Stats{}
}

// lag of what is dispatched behind the mark; 0, if a log has no such numbers. One below 0 is never the greatest, for the field begins at 0.
func lag(e api.Event) int {
	if !inLog(e.Number) || !inLog(e.Mark) { // asked first, for the difference of any two ints may wrap round
		return 0
	}
	return e.Number - e.Mark
}

// inLog: is it a number, or a mark, that some log may have?
func inLog(n int) bool { return n >= 0 && n <= api.MaxLog }
