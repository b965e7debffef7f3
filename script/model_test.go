package script_test

import (
	"encoding/hex"
	"fmt"
	"math"
	"math/big"
	"math/rand"
	"regexp"
	"slices"
	"strings"
	"testing"

	"towpath/api"
	"towpath/disk"
	"towpath/logfile"
	"towpath/replica"
	"towpath/script"
	"towpath/stat"
)

// What the words of a row may be.
const (
	aNumber = ` (0|-?[1-9][0-9]*)`
	aKey    = ` ((?:[0-9a-f][0-9a-f]){1,64})`
	aBound  = ` (-|(?:[0-9a-f][0-9a-f]){1,64})`
	writes  = `((?: (?:[0-9a-f][0-9a-f]){1,64}(?:-|=(?:[0-9a-f][0-9a-f])*))*)`
)

// forms of the rows, as the chapter's table has them.
var forms = []*regexp.Regexp{
	regexp.MustCompile(`^(config)` + strings.Repeat(aNumber, 5) + `$`),
	regexp.MustCompile(`^(txn)` + writes + `$`),
	regexp.MustCompile(`^(open|collect|save|mark|held|store|crash|close|stat)$`),
	regexp.MustCompile(`^(feed|pick|run|answer|cut)` + aNumber + `$`),
	regexp.MustCompile(`^(get)` + aKey + `$`),
	regexp.MustCompile(`^(scan)` + aBound + aBound + `$`),
}

// numberOf a word: false, if it is not of 32 bits.
func numberOf(word string) (int, bool) {
	n, ok := new(big.Int).SetString(word, 10)
	if !ok || n.Cmp(big.NewInt(math.MinInt32)) < 0 || n.Cmp(big.NewInt(math.MaxInt32)) > 0 {
		return 0, false
	}
	return int(n.Int64()), true
}

// bytesOf hexadecimal digits.
func bytesOf(word string) string {
	b, err := hex.DecodeString(word)
	if err != nil {
		panic(err) // the forms have looked at it
	}
	return string(b)
}

// writesOf the words of a transaction.
func writesOf(words string) []api.Write {
	var l []api.Write
	for _, w := range strings.Fields(words) {
		if key, ok := strings.CutSuffix(w, "-"); ok {
			l = append(l, api.Write{Key: bytesOf(key), Drop: true})
			continue
		}
		key, val, _ := strings.Cut(w, "=")
		l = append(l, api.Write{Key: bytesOf(key), Val: bytesOf(val)})
	}
	return l
}

// line of a script: its row's name, and what its words say.
type line struct {
	text, name string
	words      []string
	numbers    []int // of a row that has them
}

// lineOf a text that is not idle; false: it is no row.
func lineOf(text string) (line, bool) {
	for _, form := range forms {
		m := form.FindStringSubmatch(text)
		if m == nil {
			continue
		}
		l := line{text: text, name: m[1], words: m[2:]}
		if !strings.Contains(" txn get scan ", " "+l.name+" ") {
			for _, w := range l.words {
				n, ok := numberOf(w)
				if !ok {
					return line{}, false
				}
				l.numbers = append(l.numbers, n)
			}
		}
		return l, mayBe(l)
	}
	return line{}, false
}

// mayBe: are its numbers and writes within their limits?
func mayBe(l line) bool {
	within := func(place, least, most int) bool { return least <= l.numbers[place] && l.numbers[place] <= most }
	switch l.name {
	case "config":
		return within(0, 1, 16) && within(1, 1, 16) && within(2, 1, 64) && within(3, 1, 16) && within(4, 0, 16777216)
	case "run":
		return within(0, 0, 65536)
	case "txn":
		l := writesOf(l.words[0])
		return len(l) <= 32 && !slices.ContainsFunc(l, func(w api.Write) bool { return len(w.Val) > 1024 })
	}
	return true
}

// linesOf a script that are not idle; or the number of the first one that is wrong, and false.
func linesOf(text string) ([]line, int, bool) {
	var all []line
	texts := strings.Split(text, "\n")
	if texts[len(texts)-1] == "" {
		texts = texts[:len(texts)-1]
	}
	txns, open := 0, false
	for n, text := range texts {
		if len(text) > 8192 {
			return nil, n, false
		}
		if strings.HasPrefix(text+"#", "#") {
			continue
		}
		l, ok := lineOf(text)
		stands := false
		switch l.name {
		case "config":
			stands = len(all) == 0
		case "txn":
			txns++
			stands = len(all) > 0 && !open && txns <= 65536
		case "open":
			stands = len(all) > 0 && !open
			open = true
		default:
			stands = open
		}
		if !ok || !stands {
			return nil, n, false
		}
		all = append(all, l)
	}
	return all, 0, true
}

// actor does what the lines ask for.
type actor struct {
	c        api.Config
	capacity int
	l        []api.Txn
	d        *disk.Disk
	r        *replica.Replica
	told     []api.Event
}

// begin: a new replica.
func (a *actor) begin() string {
	s, e := logfile.New(a.l)
	if e != api.OK {
		panic(e)
	}
	r, e := replica.New(a.c, s, a.d)
	if e != api.OK {
		return fmt.Sprintf("error %d", e)
	}
	a.r, a.told = r, nil
	return fmt.Sprintf("ok %d", a.r.Mark())
}

// okOr: the answer where a call may refuse.
func okOr(e api.Errno, more ...any) string {
	if e != api.OK {
		return fmt.Sprintf("error %d", e)
	}
	return strings.TrimSuffix("ok "+fmt.Sprintln(more...), "\n")
}

// entries behind what stands ahead of them.
func entries(ahead string, l []api.Entry) string {
	for _, e := range l {
		ahead += fmt.Sprintf(" %x=%x", e.Key, e.Val)
	}
	return ahead
}

// called: the row's call.
func (a *actor) called(l line) string {
	kind := map[string]api.CallKind{"get": api.CallGet, "scan": api.CallScan, "collect": api.CallCollect, "save": api.CallSave}[l.name]
	x := api.Call{Kind: kind}
	for i, w := range l.words {
		if w != "-" {
			*[]*string{&x.Key, &x.End}[i] = bytesOf(w)
		}
	}
	n, e := a.r.Call(x)
	return okOr(e, n)
}

// laid: what the lines up to open do.
func (a *actor) laid(l line) string {
	switch l.name {
	case "config":
		a.c = api.Config{Lanes: l.numbers[0], Shards: l.numbers[1], Window: l.numbers[2], Queue: l.numbers[3]}
		a.capacity = l.numbers[4]
		return "ok"
	case "txn":
		a.l = append(a.l, api.Txn{Number: len(a.l) + 1, Writes: writesOf(l.words[0])})
		return fmt.Sprintf("ok %d", len(a.l))
	}
	d, e := disk.New(a.capacity)
	if e != api.OK {
		panic(e)
	}
	a.d = d
	return a.begin()
}

// steps: picks and runs.
func (a *actor) steps(l line) string {
	if l.name == "pick" {
		e, code := a.r.Pick(l.numbers[0])
		if code != api.OK {
			return fmt.Sprintf("error %d", code)
		}
		a.told = append(a.told, e)
		return fmt.Sprintf("event %d %d %d %d %d %d", e.Task, e.Kind, e.Number, e.Shard, e.Count, e.Mark)
	}
	n := 0
	for n < l.numbers[0] && len(a.r.Ready()) > 0 {
		e, _ := a.r.Pick(0)
		a.told = append(a.told, e)
		n++
	}
	return fmt.Sprintf("ok %d", n)
}

// asked: what is told of the replica as it stands.
func (a *actor) asked(l line) string {
	switch l.name {
	case "answer":
		x, ok := a.r.Answer(l.numbers[0])
		if !ok {
			return "none"
		}
		return entries(fmt.Sprintf("answer %d %d %d %d", x.Code, x.Mark, map[bool]int{true: 1}[x.OK], x.Count), x.Entries)
	case "held":
		return strings.TrimSuffix("held "+strings.Trim(fmt.Sprint(a.r.Held()), "[]"), " ")
	case "store":
		return entries("store", a.r.Store())
	case "stat":
		s, _ := stat.Of(a.c, a.told)
		return fmt.Sprintf("stat %d %d %d %d %d", s.Steps, s.Installs, s.Lag, s.Busy, s.Reads)
	}
	return fmt.Sprintf("ok %d", a.r.Mark())
}

// do a line: its answer.
func (a *actor) do(l line) string {
	switch l.name {
	case "config", "txn", "open":
		return a.laid(l)
	case "pick", "run":
		return a.steps(l)
	case "get", "scan", "collect", "save":
		return a.called(l)
	case "feed":
		return strings.TrimSpace(okOr(a.r.Feed(l.numbers[0])))
	case "cut":
		return strings.TrimSpace(okOr(a.d.Cut(l.numbers[0])))
	case "crash":
		a.d.Mend()
		return a.begin()
	case "close":
		a.r.Close()
		return "ok"
	}
	return a.asked(l)
}

// agrees: is what Run tells what the words say? The lines and their answers, if the text is a script.
func agrees(t testing.TB, text string) ([]line, []string) {
	t.Helper()
	lines, wrong, ok := linesOf(text)
	if !ok {
		refused(t, text, wrong)
		return nil, nil
	}
	var a actor
	var want []string
	for _, l := range lines {
		want = append(want, a.do(l))
	}
	answers := answersOf(t, text)
	for i := range want {
		if answers[i] != want[i] {
			t.Fatalf("%s: the line %q: %s, want %s", brief(text), lines[i].text, brief(answers[i]), brief(want[i]))
		}
	}
	return lines, answers
}

// oneOf: one of these, by the dice.
func oneOf[T any](dice *rand.Rand, l ...T) T { return l[dice.Intn(len(l))] }

// someKey: few, so that they meet.
func someKey(dice *rand.Rand) string { return oneOf(dice, "61", "62", "63", "6161", "00", "ff") }

// someTxn by the dice.
func someTxn(dice *rand.Rand) string {
	s := "txn"
	for range dice.Intn(4) {
		s += " " + someKey(dice) + oneOf(dice, "-", "=", "=31", "=00ff", fmt.Sprintf("=%02x", dice.Intn(256)))
	}
	return s
}

// someRow that may stand behind open, of a log of that length, where so many calls may have been taken.
func someRow(dice *rand.Rand, length, calls int) string {
	bound := func() string { return oneOf(dice, "-", "-", someKey(dice)) }
	switch dice.Intn(18) {
	case 0, 1:
		return fmt.Sprint("feed ", oneOf(dice, length, length, dice.Intn(length+2), -1))
	case 2, 3, 4, 5:
		return fmt.Sprint("pick ", dice.Intn(60)-30)
	case 6, 7, 8:
		return fmt.Sprint("run ", oneOf(dice, dice.Intn(5), dice.Intn(60), 65536, 65536))
	case 9:
		return "get " + someKey(dice)
	case 10:
		return "scan " + bound() + " " + bound()
	case 11:
		return oneOf(dice, "collect", "save", "save")
	case 12, 13, 14:
		return fmt.Sprint("answer ", -dice.Intn(calls+1)-dice.Intn(2))
	case 15:
		return oneOf(dice, "mark", "held", "held", "store", "stat")
	case 16:
		return fmt.Sprint("cut ", dice.Intn(5)-1)
	}
	return oneOf(dice, "crash", "crash", "crash", "close", "save", "")
}

// someScript by the dice: of at most so many lines behind open.
func someScript(dice *rand.Rand, most int) []string {
	n := func(most int) int { return 1 + dice.Intn(oneOf(dice, min(most, 3), min(most, 3), most)) }
	lines := []string{fmt.Sprintf("config %d %d %d %d %d", n(16), n(16), n(64), n(16), oneOf(dice, 0, 30, 60, 4096, 4096))}
	length := dice.Intn(12)
	for range length {
		lines = append(lines, someTxn(dice))
	}
	lines = append(lines, "open", fmt.Sprint("feed ", length))
	calls := 0
	for range dice.Intn(most + 1) {
		row := someRow(dice, length, calls)
		lines = append(lines, row)
		switch row[:min(len(row), 3)] {
		case "get", "sca", "col", "sav":
			calls++
		case "cra":
			calls = 0
		}
	}
	for range dice.Intn(4) {
		lines = slices.Insert(lines, dice.Intn(len(lines)+1), oneOf(dice, "", "#", "# x", "#\x00"))
	}
	return lines
}

// spoilt: a script's lines with something changed: a line goes, stands twice, at another place; or a byte of one.
func spoilt(dice *rand.Rand, lines []string) []string {
	l := slices.Clone(lines)
	if len(l) == 0 {
		return l
	}
	i := dice.Intn(len(l))
	switch dice.Intn(6) {
	case 0:
		return slices.Delete(l, i, i+1)
	case 1:
		return slices.Insert(l, dice.Intn(len(l)), l[i])
	case 2:
		l[i] = oneOf(dice, "open", "txn", someTxn(dice), someRow(dice, 3, 3), l[0], "x", " ", "run 65537", "#"+strings.Repeat("x", oneOf(dice, 8191, 8192)))
	case 3:
		l[i] += oneOf(dice, " ", "\r", " 1", "0", "-", "=", "61", " 61-", "\x00", "\n", "#")
	default:
		b := []byte(l[i])
		if len(b) > 0 {
			b[dice.Intn(len(b))] = oneOf(dice, ' ', '0', '1', '9', '-', '+', '=', 'a', 'A', 'g', '#', '\n', byte(dice.Intn(256)))
		}
		l[i] = string(b)
	}
	return l
}

// P27.1: scripts, and what is none, by the dice, held against the words.
func TestByTheDice(t *testing.T) {
	counts := map[string]int{}
	for seed := range int64(8000) {
		dice := rand.New(rand.NewSource(seed))
		l := someScript(dice, 60)
		for range dice.Intn(3) {
			l = spoilt(dice, l)
		}
		rows, answers := agrees(t, strings.Join(l, "\n")+oneOf(dice, "", "\n", "\n\n"))
		if t.Failed() {
			t.FailNow()
		}
		counts[fmt.Sprint("a script: ", answers != nil)]++
		for i, a := range answers {
			counts[rows[i].name]++
			word, _, _ := strings.Cut(a, " ")
			counts[word]++
			if word == "error" || word == "answer" {
				counts[strings.Join(strings.Fields(a)[:2], " ")]++
			}
		}
	}
	for _, seen := range []string{"a script: true", "a script: false", "feed", "pick", "run", "get", "scan", "collect", "save", "answer", "mark", "held", "store", "cut", "crash", "close", "stat", "ok", "error", "event", "none", "error 1", "error 9", "error 11", "error 12", "answer 0", "answer 11", "answer 13"} {
		if counts[seen] < 100 {
			t.Errorf("seen %d times: %s", counts[seen], seen)
		}
	}
}

// P27.1: each line of a script, spoilt at each of its bytes by each of some others, or without it, or with one more there.
func TestSpoiltBytes(t *testing.T) {
	l := []string{"config 2 3 16 10 4096", "txn", "txn 61=31 62-", "open", "feed 2", "pick -1", "run 10", "get 61", "scan 61 -", "scan - 62", "collect", "save", "run 99", "answer -1", "mark", "held", "store", "cut 1", "crash", "close", "stat"}
	few := "\x00\t\n\r #+-019=afgAF~\x7f\x80\xff"
	for i, x := range l {
		for at := range len(x) + 1 {
			spoil := func(s string) {
				all := slices.Clone(l)
				all[i] = s
				agrees(t, text(all...))
			}
			for _, b := range []byte(few) {
				spoil(x[:at] + string([]byte{b}) + x[at:])
				if at < len(x) {
					spoil(x[:at] + string([]byte{b}) + x[at+1:])
				}
			}
			if at < len(x) {
				spoil(x[:at] + x[at+1:])
				spoil(x[:at])
				spoil(x[at:])
			}
		}
	}
}

// P27.1, R1: any text.
func FuzzRun(f *testing.F) {
	f.Add("config 1 1 4 1 4096\ntxn 61=31\nopen\nfeed 1\npick 0\nrun 100\nstore\nget 61\nrun 9\nanswer -1\nstat\n")
	f.Add("config 1 1 4 1 0\nopen\npick 0\nfeed 1\nanswer -1\ncrash")
	f.Add("#\n\nconfig 16 16 64 16 16777216\ntxn\ntxn 00=ff 61-\nopen\nfeed 2\ncut 1\nsave\nrun 65536\nanswer -1\ncrash\nclose\nscan - 61\nscan 61 -\nheld\nmark\ncollect")
	f.Fuzz(func(t *testing.T, text string) {
		if strings.Count(text, "\n") < 300 {
			agrees(t, text)
		}
	})
}

// FuzzScript: scripts by dice that a seed throws, and what bytes make of their lines.
func FuzzScript(f *testing.F) {
	f.Add(int64(1), 30, 0, []byte{})
	f.Add(int64(2), 60, 2, []byte("pick 1\nheld"))
	f.Fuzz(func(t *testing.T, seed int64, most, spoil int, more []byte) {
		if most < 0 || most > 200 || len(more) > 1000 {
			return
		}
		dice := rand.New(rand.NewSource(seed))
		l := someScript(dice, most)
		for range min(spoil, 5) {
			l = spoilt(dice, l)
		}
		agrees(t, text(l...)+string(more))
	})
}

// R5: what Run tells hangs on the text alone, also when several go on at one time.
func TestTheSameAgain(t *testing.T) {
	type told struct {
		out  string
		line int
		ok   bool
	}
	run := func(s string) told {
		out, line, ok := script.Run(s)
		return told{out, line, ok}
	}
	var texts []string
	var first []told
	for seed := range int64(60) {
		dice := rand.New(rand.NewSource(seed))
		l := someScript(dice, 60)
		if seed%3 == 0 {
			l = spoilt(dice, l)
		}
		texts = append(texts, text(l...))
		first = append(first, run(texts[seed]))
	}
	for n := range 8 {
		t.Run(fmt.Sprint(n), func(t *testing.T) {
			t.Parallel()
			dice := rand.New(rand.NewSource(int64(n)))
			for range 200 {
				i := dice.Intn(len(texts))
				if again := run(texts[i]); again != first[i] {
					t.Fatalf("%s: %+v, then %+v", brief(texts[i]), first[i], again)
				}
			}
		})
	}
}
