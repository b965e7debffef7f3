package script

import (
	"towpath/api"
	"towpath/conf"
	"towpath/record"
)

// words of a row, behind its name: what they say. Each row has its own of them.
type words struct {
	conf     api.Config
	capacity int
	txn      api.Txn
	number   int
	call     api.Call
}

// reader takes the lines of a script, one behind the other.
type reader struct {
	scanner // of the line
	rows    map[string]row
	// at and txns are what the lines ahead come to: the place of the next one, and how many transactions the log has.
	at   place
	txns int
}

// isIdle: does a line ask for nothing? Not one that is too long, whatever it begins with: no script has it.
func isIdle(line string) bool {
	return isShort(line) && (line == "" || line[0] == '#')
}

func isShort(line string) bool { return len(line) <= api.MaxLine }

// read: what a line asks for that is not idle.
func (r *reader) read(line string) order {
	r.scanner = scanner{rest: line, more: true}
	x, known := r.rows[r.word()]
	if !isShort(line) || !known || x.at != r.at {
		return order{line: line}
	}
	said := x.words(r)
	r.need(!r.more)
	if r.wrong {
		return order{line: line}
	}
	r.at = x.then
	return order{line: line, words: said, deed: x.deed}
}

// none: the row has its name alone.
func (r *reader) none() words { return words{} }

func (r *reader) config() words {
	c := api.Config{Lanes: r.number(), Shards: r.number(), Window: r.number(), Queue: r.number()}
	r.need(conf.Check(c) == api.OK)
	return words{conf: c, capacity: r.upTo(api.MaxDisk)}
}

// txn: the next transaction of the log. Of one too many the number may not be.
func (r *reader) txn() words {
	r.txns++
	t := api.Txn{Number: r.txns}
	for r.more {
		t.Writes = append(t.Writes, r.write())
	}
	r.need(record.Check(t) == api.OK)
	return words{txn: t}
}

// one: a number, whichever it is.
func (r *reader) one() words { return words{number: r.number()} }

// steps: how many may be asked for.
func (r *reader) steps() words { return words{number: r.upTo(api.MaxLog)} }

func (r *reader) get() words {
	return words{call: api.Call{Kind: api.CallGet, Key: r.key()}}
}

func (r *reader) scan() words {
	return words{call: api.Call{Kind: api.CallScan, Key: r.bound(), End: r.bound()}}
}

func (r *reader) collect() words {
	return words{call: api.Call{Kind: api.CallCollect}}
}

func (r *reader) save() words {
	return words{call: api.Call{Kind: api.CallSave}}
}
