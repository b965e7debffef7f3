package script

// place in a script, by what stands ahead.
type place uint8

const (
	first    place = iota // nothing
	unopened              // the configuration, and transactions
	opened                // open
)

// row of those that a line may be.
type row struct {
	at, then place // where it may stand, and where what follows stands
	words    func(*reader) words
	deed     func(*world, words) string // its answer
}

// rows by their names.
func rows() map[string]row {
	return map[string]row{
		"config":  {first, unopened, (*reader).config, (*world).config},
		"txn":     {unopened, unopened, (*reader).txn, (*world).txn},
		"open":    {unopened, opened, (*reader).none, (*world).open},
		"feed":    {opened, opened, (*reader).one, (*world).feed},
		"pick":    {opened, opened, (*reader).one, (*world).pick},
		"run":     {opened, opened, (*reader).steps, (*world).run},
		"get":     {opened, opened, (*reader).get, (*world).call},
		"scan":    {opened, opened, (*reader).scan, (*world).call},
		"collect": {opened, opened, (*reader).collect, (*world).call},
		"save":    {opened, opened, (*reader).save, (*world).call},
		"answer":  {opened, opened, (*reader).one, (*world).answer},
		"mark":    {opened, opened, (*reader).none, (*world).mark},
		"held":    {opened, opened, (*reader).none, (*world).held},
		"store":   {opened, opened, (*reader).none, (*world).store},
		"cut":     {opened, opened, (*reader).one, (*world).cut},
		"crash":   {opened, opened, (*reader).none, (*world).crash},
		"close":   {opened, opened, (*reader).none, (*world).close},
		"stat":    {opened, opened, (*reader).none, (*world).stat},
	}
}
