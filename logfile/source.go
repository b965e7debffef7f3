package logfile

import "towpath/api"

// Source gives records as they are asked for. See doc/06-logfile.md.
type Source struct {
	// made tells a source of New from a zero struct, which counts as none.
	made bool
	log  []api.Txn
	// asked are the numbers that were given, in the order of asking.
	asked []int
}

// New: of a log. (P6.4)
//
// Of a copy: what is done to l later must not show.
func New(l []api.Txn) (*Source, api.Errno) {
	if wrong := Check(l); wrong != api.OK {
		return nil, wrong
	}
	log := make([]api.Txn, len(l))
	for i, t := range l {
		log[i] = copied(t)
	}
	return &Source{made: true, log: log}, api.OK
}

// copied: the same transaction, its writes in memory of their own.
func copied(t api.Txn) api.Txn {
	writes := make([]api.Write, len(t.Writes))
	copy(writes, t.Writes)
	return api.Txn{Number: t.Number, Writes: writes}
}

// there: is it a source of New?
func (s *Source) there() bool {
	return s != nil && s.made
}

// Get: the record of that number. (P6.5)
func (s *Source) Get(number int) (api.Txn, api.Errno) {
	switch {
	case !s.there():
		return api.Txn{}, api.ErrNil
	case number < 1 || number > len(s.log):
		return api.Txn{}, api.ErrArg
	}
	s.asked = append(s.asked, number)
	return copied(s.log[number-1]), api.OK
}

// Asked: the numbers that were asked for, in order. (P6.5)
func (s *Source) Asked() []int {
	if !s.there() || len(s.asked) == 0 {
		return nil
	}
	all := make([]int, len(s.asked))
	copy(all, s.asked)
	return all
}

// Last: the greatest number. (P6.5)
func (s *Source) Last() int {
	if !s.there() {
		return 0
	}
	return len(s.log)
}
