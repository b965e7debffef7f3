package script_test

import (
	"fmt"
	"slices"
	"strings"
	"testing"

	"towpath/api"
	"towpath/script"
)

// text of lines.
func text(lines ...string) string { return strings.Join(lines, "\n") + "\n" }

// laid: what stands ahead of open.
const laid = "config 1 1 4 1 4096"

// logT: the document's log, and a replica over it, opened.
func logT() []string {
	return []string{laid, "txn 61=31", "txn 62=32", "txn 61=33 62-", "open"}
}

// behind: the lines of the log T, and these behind them.
func behind(lines ...string) string { return text(append(logT(), lines...)...) }

// brief: the beginning of what it is, for it may be long.
func brief(x any) string {
	s := fmt.Sprintf("%q", x)
	return s[:min(len(s), 600)]
}

// answersOf a script: one of each of its lines that is not idle. The transcript is told of these lines, and nothing else. (P27.1)
func answersOf(t testing.TB, s string) []string {
	t.Helper()
	out, line, ok := script.Run(s)
	if line != 0 || !ok {
		t.Fatalf("Run(%s): line %d, %v", brief(s), line, ok)
	}
	var answers []string
	for _, l := range strings.Split(s, "\n") {
		if l == "" || strings.HasPrefix(l, "#") {
			continue
		}
		rest, ahead := strings.CutPrefix(out, "> "+l+"\n= ")
		answer, rest, ends := strings.Cut(rest, "\n")
		if !ahead || !ends {
			t.Fatalf("Run(%s): %s instead of the line %s and its answer", brief(s), brief(out), brief(l))
		}
		answers, out = append(answers, answer), rest
	}
	if out != "" {
		t.Fatalf("Run(%s): behind it %s", brief(s), brief(out))
	}
	return answers
}

// answersAre: behind the log T each of these lines has the answer that stands behind it.
func answersAre(t testing.TB, pairs ...string) {
	t.Helper()
	var lines []string
	for i := 0; i < len(pairs); i += 2 {
		lines = append(lines, pairs[i])
	}
	answers := answersOf(t, behind(lines...))[len(logT()):]
	for i, answer := range answers {
		if want := pairs[2*i+1]; answer != want {
			t.Fatalf("%q: the line %q: %q, want %q", lines[:i], lines[i], answer, want)
		}
	}
}

// refused: there is no transcript, but the number of that line.
func refused(t testing.TB, s string, line int) {
	t.Helper()
	if out, n, ok := script.Run(s); out != "" || n != line || ok {
		t.Errorf("Run(%s) = %s, %d, %v, want the line %d", brief(s), brief(out), n, ok, line)
	}
}

// P27.1: the chapter's rows.
func TestExamples(t *testing.T) {
	out, line, ok := script.Run("config 1 1 4 1 4096\ntxn 61=31\nopen\nfeed 1\npick 0\nrun 100\nstore\nget 61\nrun 9\nanswer -1\nstat\n")
	want := "> config 1 1 4 1 4096\n= ok\n> txn 61=31\n= ok 1\n> open\n= ok 0\n> feed 1\n= ok\n> pick 0\n= event 0 1 1 0 0 0\n> run 100\n= ok 6\n> store\n= store 61=31\n> get 61\n= ok -1\n> run 9\n= ok 4\n> answer -1\n= answer 0 1 1 0 61=31\n> stat\n= stat 11 1 1 1 1\n"
	if out != want || line != 0 || !ok {
		t.Errorf("%q, %d, %v", out, line, ok)
	}
	for s, line := range map[string]int{
		"open":                          0,
		"config 0 1 4 1 0":              0,
		"config 1 1 4 1 0\n#\ntxn 6":    2,
		"config 1 1 4 1 0\npick 0":      1,
		"config 1 1 4 1 0 ":             0,
		"config 1 1 4 1 0\nopen\nopen ": 2,
	} {
		refused(t, s, line)
	}
	answers := answersOf(t, "config 1 1 4 1 0\nopen\npick 0\nfeed 1\nanswer -1\ncrash")
	if want := []string{"ok", "ok 0", "error 9", "error 1", "none", "ok 0"}; !slices.Equal(answers, want) {
		t.Errorf("%q", answers)
	}
}

// P27.1: texts in which nothing is asked for.
func TestNothing(t *testing.T) {
	for _, s := range []string{"", "\n", "\n\n\n", "#", "#\n", "##", "# config 1 1 4 1 0", "#\n\n# x\n", "#\r\n", "#\x00\xff\n", "#" + strings.Repeat("x", api.MaxLine-1)} {
		if answers := answersOf(t, s); len(answers) != 0 {
			t.Errorf("%q: %q", s, answers)
		}
	}
}

// P27.1: lines end at the byte 10 alone; idle ones may stand anywhere, and all are counted.
func TestWhatALineIs(t *testing.T) {
	whole := answersOf(t, behind("feed 3", "run 99", "store"))
	for _, s := range []string{
		strings.TrimSuffix(behind("feed 3", "run 99", "store"), "\n"),
		"\n\n" + strings.ReplaceAll(behind("feed 3", "run 99", "store"), "\n", "\n\n#\n"),
		"# first\n#\n" + behind("feed 3", "#feed 9", "run 99", "", "#", "store", "", ""),
	} {
		if answers := answersOf(t, s); !slices.Equal(answers, whole) {
			t.Errorf("%q: %q, want %q", s, answers, whole)
		}
	}
	for s, line := range map[string]int{
		" ":                          0,
		"\n ":                        1,
		" #":                         0,
		"\t#":                        0,
		"\r\n":                       0,
		"\n\n\n\nx":                  4,
		"#\n#\n\n#\nopen\nopen":      4,
		laid + "\r\n":                0,
		laid + "\nopen\r\nmark":      1,
		laid + "\ropen":              0,
		laid + "\n\n#\nopen\n\nopen": 5,
		laid + "\nopen\n\u2028mark":  2,
		laid + "\nopen\nmark\x00":    2,
		laid + "\nopen\nmark\n \n":   3,
	} {
		refused(t, s, line)
	}
}

// P27.1: no line has more than MaxLine bytes, whatever it is and wherever it stands.
func TestLongLines(t *testing.T) {
	word := " " + strings.Repeat("6b", api.MaxKey) + "=" + strings.Repeat("76", api.MaxVal)
	rest := func(bytes int) string { // a word of so many, an even number
		return " 61=" + strings.Repeat("76", (bytes-4)/2)
	}
	many := "txn" + strings.Repeat(word, 3)
	for _, n := range []int{api.MaxLine - 3, api.MaxLine - 1} { // of a row it is odd
		line := many + rest(n-len(many))
		if answers := answersOf(t, text(laid, line, "open")); len(line) != n || !slices.Equal(answers, []string{"ok", "ok 1", "ok 0"}) {
			t.Errorf("%d bytes: %q", len(line), answers)
		}
	}
	long := many + rest(api.MaxLine+1-len(many))
	if len(long) != api.MaxLine+1 {
		t.Fatal(len(long))
	}
	refused(t, text(laid, long, "open"), 1)
	comment := "#" + strings.Repeat(" ", api.MaxLine-1)
	answersOf(t, text(comment, laid, comment, "open", comment))
	answersOf(t, strings.Repeat(comment+"\n", 40))
	for _, l := range []string{comment + " ", comment + comment, strings.Repeat("x", api.MaxLine+1), strings.Repeat(" ", 1<<20), laid + strings.Repeat(" 1", api.MaxLine)} {
		refused(t, l, 0)
		refused(t, text(l, laid, "open", "mark"), 0)
		refused(t, text(laid, "", l, "open", "mark"), 2)
		refused(t, text(laid, "#", "", "open", "mark", l), 5)
		refused(t, text(laid, "open", "mark", l, "x", l), 3)
	}
}

// P27.1: the first line that is wrong is told, of whatever kind.
func TestTheFirstWrongLine(t *testing.T) {
	wrong := []string{"x", "open 1", "config 1 1 4 1 0", "txn", "get", "#" + strings.Repeat("x", api.MaxLine)}
	for _, a := range wrong {
		for _, b := range wrong {
			refused(t, behind(a, b), 5)
			refused(t, behind("mark", "", a, b, a), 7)
			refused(t, behind("feed 3", "run 9", "#", b, "store", a), 8)
		}
	}
}

// rowsOf: of each row a line that may be, by where it may stand: first of all, ahead of open, behind it.
func rowsOf() [3][]string {
	return [3][]string{
		{"config 1 1 4 1 0"},
		{"txn", "txn 61=", "open"},
		{"feed 0", "pick 0", "run 0", "get 61", "scan - -", "collect", "save", "answer 0", "mark", "held", "store", "cut 0", "crash", "close", "stat"},
	}
}

// P27.1: each row at each place.
func TestPlaces(t *testing.T) {
	ahead := [3]string{"#\n", "#\nconfig 2 2 4 2 64\n", "#\nconfig 2 2 4 2 64\nopen\n"}
	for place, s := range ahead {
		for its, rows := range rowsOf() {
			for _, row := range rows {
				if its == place {
					answersOf(t, s+row)
					answersOf(t, s+"\n"+row+"\n#")
				} else {
					refused(t, s+row, strings.Count(s, "\n"))
					refused(t, s+"\n"+row+"\nx\n", strings.Count(s, "\n")+1)
				}
			}
		}
	}
	// What may stand behind open may stand anywhere there, and again.
	for _, a := range rowsOf()[2] {
		for _, b := range rowsOf()[2] {
			answersOf(t, behind(a, b, a, b))
			refused(t, behind(a, b, "open"), 7)
			refused(t, behind(a, b, laid), 7)
			refused(t, behind(a, b, "txn"), 7)
		}
	}
	refused(t, text(laid, "txn", laid), 2)
	refused(t, text(laid, "txn", "mark"), 2)
	refused(t, text(laid, "open", "crash", "open"), 3)
}

// P27.1: rows have their name, and just their words.
func TestWords(t *testing.T) {
	for _, l := range []string{
		"x", "Mark", "MARK", "mar", "marks", "mark1", "mark-", "mark mark", " mark", "mark ", "mark  ", "mark 0", "mark -", "mark #", "\tmark", "mark\t",
		"held 1", "store 61", "store -", "crash 1", "close 0", "stat 1", "collect 1", "collect -", "save 1", "save -", "save ", "close ",
		"feed", "feed ", "feed  1", "feed 1 ", "feed 1 1", " feed 1", "feed\t1", "feed1", "pick", "pick ", "pick 0 0", "run", "run ", "run 1 1", "answer", "answer ", "answer -1 -1", "cut", "cut ", "cut 1 1",
		"get", "get ", "get  61", "get 61 ", "get 61 62", "get 61 -", "scan", "scan ", "scan -", "scan - ", "scan -  -", "scan  - -", "scan - - -", "scan - - ", "scan 61", "scan 61 62 63",
		"error 1", "ok", "none", "event 0 1 1 0 0 0", "> mark", "= ok", "drop 61", "-1", "0", "-", "=", "61=31",
	} {
		refused(t, behind(l), 5)
		refused(t, behind("mark", l, "mark"), 6)
	}
	for _, l := range []string{"open ", "open 1", "open  ", " open", "txn ", "txn  ", " txn", "txns", "txn  61=", "txn 61= ", "txn 61=  62=", "config", "config ", "transaction"} {
		refused(t, text(laid, l), 1)
	}
	for _, l := range []string{"config", "config ", "config 1 1 4 1", "config 1 1 4 1 ", "config 1 1 4 1 0 0", "config 1 1 4 1 0 ", "config  1 1 4 1 0", "config 1 1  4 1 0", " config 1 1 4 1 0", "config 1 1 4 1 -", "configs 1 1 4 1 0", "config\t1 1 4 1 0"} {
		refused(t, l, 0)
	}
}

// wrongNumbers: none is one, as a script tells it.
func wrongNumbers() []string {
	return []string{"", "-", "--1", "+1", "+0", "-0", "00", "01", "-01", "1.", "1.0", "1e1", "0x1", "0b1", "0o1", "1_0", "1a", "a", "½", "١", "１", "1\t", "1\r", "-2147483649", "2147483648", "4294967296", "18446744073709551616", "99999999999999999999999", "1-", "1=", "61=", strings.Repeat("0", 20), strings.Repeat("1", 4000)}
}

// P27.1: numbers have one form; they are of 32 bits.
func TestNumbers(t *testing.T) {
	good := []string{"0", "-1", "1", "9", "10", "-10", "100", "2147483647", "-2147483648", "-2147483647", "65537"}
	for _, name := range []string{"feed", "pick", "answer", "cut"} {
		for _, n := range good {
			answersOf(t, behind(name+" "+n))
		}
		for _, n := range wrongNumbers() {
			refused(t, behind(name+" "+n), 5)
		}
	}
	for _, n := range append(wrongNumbers(), "-1", "65537", "2147483647", "-2147483648") {
		refused(t, behind("run "+n), 5)
	}
	for _, n := range []string{"0", "1", "65535", "65536"} {
		answersAre(t, "run "+n, "ok 0")
	}
}

// P27.1: the configuration and the capacity, each number at its bounds and beside them.
func TestConfig(t *testing.T) {
	most := []int{api.MaxLanes, api.MaxShards, api.MaxWindow, api.MaxQueue, api.MaxDisk}
	config := func(place int, word string) string {
		words := []string{"config", "1", "1", "4", "1", "0"}
		words[place+1] = word
		return strings.Join(words, " ")
	}
	for place, n := range most {
		for _, good := range []int{1, 2, n - 1, n} {
			if answers := answersOf(t, text(config(place, fmt.Sprint(good)), "open")); !slices.Equal(answers, []string{"ok", "ok 0"}) {
				t.Errorf("%q", answers)
			}
		}
		for _, bad := range append(wrongNumbers(), "-1", "-2147483648", "2147483647", fmt.Sprint(n+1)) {
			refused(t, config(place, bad), 0)
			refused(t, "\n"+config(place, bad)+"\nopen\n", 1)
		}
		if place < 4 {
			refused(t, config(place, "0"), 0)
		}
	}
	answersOf(t, text(config(4, "0"), "open"))
	answersOf(t, text("config 16 16 64 16 16777216", "open"))
}

// P27.1: keys and values in hexadecimal.
func TestHexadecimal(t *testing.T) {
	most := strings.Repeat("ff", api.MaxKey)
	for _, k := range []string{"00", "ff", "61", "0a20", "2d3d", "0123456789abcdef", "0d0a", most} {
		answersOf(t, behind("get "+k, "scan "+k+" -", "scan - "+k, "scan "+k+" "+k))
		answersOf(t, text(laid, "txn "+k+"=", "txn "+k+"-", "txn "+k+"="+k, "open"))
	}
	for _, k := range []string{"", "6", "616", "6A", "A6", "AA", "g1", "1g", "0x61", "61-", "61=", "=", "--", "-61", "61,62", "6 1", "6/", "/6", "6:", ":6", "`6", "6`", "é", "\xff\xff", "61\t", "61\r", most + "00", most + "f", strings.Repeat(most, 30)} {
		refused(t, behind("get "+k), 5)
		refused(t, behind("scan "+k+" -"), 5)
		refused(t, behind("scan - "+k), 5)
		refused(t, behind("scan 61 "+k), 5)
	}
	refused(t, behind("get -"), 5)
	for _, l := range []string{"scan - -", "scan 61 -", "scan - 61", "scan 61 62", "scan 62 61", "scan 61 61"} {
		answersAre(t, l, "ok -1")
	}
}

// P27.1: the words of a transaction.
func TestWrites(t *testing.T) {
	key, val := strings.Repeat("6b", api.MaxKey), strings.Repeat("76", api.MaxVal)
	for _, l := range []string{"txn", "txn 61=", "txn 61-", "txn 61=00", "txn 61=2d", "txn 3d=3d 2d-", "txn 61=31 61- 61=31", "txn " + key + "=" + val, "txn " + key + "-", "txn" + strings.Repeat(" 61=31", api.MaxWrites), "txn" + strings.Repeat(" 61-", api.MaxWrites)} {
		if answers := answersOf(t, text(laid, l, "txn", l, "open")); !slices.Equal(answers, []string{"ok", "ok 1", "ok 2", "ok 3", "ok 0"}) {
			t.Errorf("%s: %q", brief(l), answers)
		}
	}
	for _, w := range []string{
		"", "61", "-", "=", "=31", "--", "==", "61--", "61==", "61=-", "61-=", "61-31", "61=31-", "61=31=", "61=31=32", "=61=", "-61", "61 ", "6=", "6-", "616=", "616-", "61=3", "61=313", "6A=", "6A-", "61=3A", "6g-", "61=g1", "61=3G",
		key + "00=", key + "00-", key + "0=", "61=" + val + "00", "61=" + val + "0", key + "6b=" + val, "61+", "61=\t", "61\t=", "61:31",
	} {
		refused(t, text(laid, "txn "+w), 1)
		refused(t, text(laid, "txn", "txn 61=31 "+w+" 62-", "open"), 2)
	}
	for _, w := range []string{" 61=31", " 61-", " 61="} {
		refused(t, text(laid, "txn"+strings.Repeat(w, api.MaxWrites+1)), 1)
		refused(t, text(laid, "txn"+strings.Repeat(w, 1000)), 1)
	}
}

// P27.1: a log has at most MaxLog transactions.
func TestTheMostTransactions(t *testing.T) {
	all := laid + "\n" + strings.Repeat("txn\n#\n", api.MaxLog)
	answers := answersOf(t, all+"open\nfeed 65536\nfeed 65537\n")
	if n := len(answers); n != api.MaxLog+4 || !slices.Equal(answers[n-4:], []string{"ok 65536", "ok 0", "ok", "error 1"}) {
		t.Errorf("%d: %q", n, answers[n-4:])
	}
	refused(t, all+"txn", 1+2*api.MaxLog)
	refused(t, all+"txn 61=31\nopen\n", 1+2*api.MaxLog)
	refused(t, all+"\ntxn\ntxn\nx", 2+2*api.MaxLog)
}

// P27.1: the log T, step by step: chapter 20's own rows as a script.
func TestEvents(t *testing.T) {
	answersAre(t,
		"pick 0", "error 9", "feed 4", "error 1", "feed -1", "error 1", "feed 3", "ok", "held", "held", "mark", "ok 0",
		"pick 0", "event 0 1 1 0 0 0",
		"pick -1", "event 0 3 1 0 0 0",
		"pick 1", "event 1 4 1 0 0 0",
		"held", "held 1",
		"pick 3", "event 1 5 1 0 0 0",
		"pick 5", "event 2 7 1 0 0 0",
		"pick -1", "event 1 6 1 0 0 0",
		"held", "held", "store", "store",
		"pick 2147483647", "event 3 8 1 0 1 1",
		"mark", "ok 1", "store", "store 61=31",
		"run 0", "ok 0", "run 3", "ok 3", "run 65536", "ok 13", "run 1", "ok 0", "pick 0", "error 9",
		"store", "store 61=33", "mark", "ok 3",
		"get 61", "ok -1", "answer -1", "none", "pick 0", "event -1 9 -1 0 0 3", "pick 0", "event -1 10 -1 0 0 3", "pick 0", "event 2 7 -1 0 0 3", "answer -1", "none", "pick 0", "event -1 12 -1 0 0 3",
		"answer -1", "answer 0 3 1 0 61=33", "answer -1", "answer 0 3 1 0 61=33", "answer -2", "none", "answer 0", "none", "answer 1", "none",
		"save", "ok -2", "pick 0", "event -2 9 -2 0 0 3", "pick 0", "event -2 10 -2 0 0 3", "pick 0", "event 2 7 -2 0 0 3", "pick 0", "event -2 11 -2 0 1 3", "pick 0", "event -2 11 -2 0 0 3", "pick 0", "event -2 12 -2 0 0 3",
		"answer -2", "answer 0 3 1 0",
		"stat", "stat 33 4 2 1 2",
	)
}

// Two lanes and two shards: which lane and which shard is told; what lanes hold rises, whichever holds it.
func TestLanesAndShards(t *testing.T) {
	answers := answersOf(t, text("config 2 2 4 1 0", "txn 61=31 62=32", "txn 63=", "open", "feed 2", "run 4", "held",
		"pick 1", "held", "pick 0", "held", "pick 1", "pick 0", "pick 1", "run 99", "stat"))
	want := []string{"ok", "ok 1", "ok 2", "ok 0", "ok", "ok 4", "held",
		"event 2 4 1 0 0 0", "held 1", "event 1 4 2 0 0 0", "held 1 2", "event 2 5 1 0 0 0", "event 2 5 1 1 0 0", "event 4 7 1 1 0 0", "ok 7", "stat 16 3 2 2 0"}
	if !slices.Equal(answers, want) {
		t.Errorf("%q", answers)
	}
}

// P27.1: the calls, and their answers.
func TestCalls(t *testing.T) {
	answersAre(t,
		"feed 2", "ok", "run 99", "ok 14",
		"scan - -", "ok -1", "scan 62 -", "ok -2", "scan - 62", "ok -3", "scan 61 62", "ok -4", "scan 62 61", "ok -5", "get 62", "ok -6", "get 63", "ok -7",
		"run 999", "ok 28",
		"answer -1", "answer 0 2 1 0 61=31 62=32", "answer -2", "answer 0 2 1 0 62=32", "answer -3", "answer 0 2 1 0 61=31", "answer -4", "answer 0 2 1 0 61=31", "answer -5", "answer 0 2 1 0", "answer -6", "answer 0 2 1 0 62=32", "answer -7", "answer 0 2 0 0",
		"feed 3", "ok", "run 99", "ok 9", "store", "store 61=33",
		"collect", "ok -8", "run 99", "ok 4", "answer -8", "answer 0 3 1 2",
		"collect", "ok -9", "run 99", "ok 4", "answer -9", "answer 0 3 1 0", "store", "store 61=33",
		"answer -6", "answer 0 2 1 0 62=32", "answer -10", "none", "answer -2147483648", "none",
		"close", "ok", "close", "ok", "feed 3", "error 12", "get 61", "error 12", "scan - -", "error 12", "collect", "error 12", "save", "error 12",
		"answer -9", "answer 0 3 1 0", "mark", "ok 3", "pick 0", "error 9", "run 5", "ok 0", "cut 3", "ok",
		"crash", "ok 0", "answer -9", "none", "store", "store", "held", "held", "feed 3", "ok", "get 61", "ok -1",
	)
}

// An entry whose value is empty, bytes that are no text, and the empty value of a key that is there.
func TestEntries(t *testing.T) {
	answers := answersOf(t, text("config 1 3 4 1 0", "txn 00= ff=0aff 0a20=3d 80-", "open", "feed 1", "run 99", "store", "get 00", "get 80", "scan 0a -", "run 99", "answer -1", "answer -2", "answer -3"))
	want := []string{"store 00= 0a20=3d ff=0aff", "ok -1", "ok -2", "ok -3", "ok 16", "answer 0 1 1 0 00=", "answer 0 1 0 0", "answer 0 1 1 0 0a20=3d ff=0aff"}
	if !slices.Equal(answers[5:], want) {
		t.Errorf("%q", answers[5:])
	}
}

// P27.1: as many calls under way as may be, and one more.
func TestTheMostCalls(t *testing.T) {
	pairs := []string{}
	for n := range api.MaxCalls {
		pairs = append(pairs, "collect", fmt.Sprint("ok -", n+1))
	}
	for _, l := range []string{"collect", "save", "get 61", "scan - -"} {
		pairs = append(pairs, l, "error 8")
	}
	pairs = append(pairs, "run 65536", "ok 128", "get 61", "ok -33", "close", "ok", "get 61", "error 12")
	answersAre(t, pairs...)
}

// P27.1: a cut disk: what was written tells where a replica goes on from; the crash mends it. (At the mark 2 a checkpoint is two raw writes.)
func TestCuts(t *testing.T) {
	for _, cut := range []string{"-1", "-2147483648", "2", "3", "2147483647"} {
		answersAre(t, "cut "+cut, "ok", "feed 2", "ok", "run 99", "ok 14", "save", "ok -1", "run 99", "ok 6", "answer -1", "answer 0 2 1 0", "crash", "ok 2", "store", "store 61=31 62=32", "mark", "ok 2", "feed 3", "ok", "run 99", "ok 9", "store", "store 61=33")
	}
	for cut := range 2 {
		last := fmt.Sprint("ok ", cut+1) // the raw write that is not done is a step too
		answersAre(t, "feed 2", "ok", "run 99", "ok 14", "save", "ok -1", "get 61", "ok -2", fmt.Sprint("cut ", cut), "ok", "run 3", "ok 3", "run 99", last,
			"answer -1", "answer 11 2 0 0", "answer -2", "none",
			"pick 0", "error 11", "run 99", "ok 0", "feed 3", "error 11", "get 61", "error 11", "scan - -", "error 11", "collect", "error 11", "save", "error 11", "cut 5", "error 11", "cut -1", "error 11",
			"mark", "ok 2", "store", "store 61=31 62=32", "held", "held", "close", "ok", "get 61", "error 11",
			"stat", fmt.Sprintf("stat %d 2 2 1 0", 14+3+cut+1),
			"crash", "ok 0", "stat", "stat 0 0 0 0 0", "store", "store", "feed 3", "ok", "run 99", "ok 23", "save", "ok -1", "run 99", "ok 6", "answer -1", "answer 0 3 1 0", "crash", "ok 3", "store", "store 61=33")
	}
	// A pick tells the raw write that is not done as if it were.
	answersAre(t, "save", "ok -1", "run 3", "ok 3", "cut 0", "ok", "pick 0", "event -1 11 -1 0 1 0", "pick 0", "error 11", "stat", "stat 4 0 0 0 0")
}

// P27.1: a crash mends a disk that is not dead yet: the cut that was still to come is none any more; and a later cut goes ahead of an earlier one.
func TestCutsThatDoNotCome(t *testing.T) {
	saves := []string{"feed 2", "ok", "run 99", "ok 14", "save", "ok -1", "run 99", "ok 6", "crash", "ok 2"}
	answersAre(t, append([]string{"cut 0", "ok", "crash", "ok 0"}, saves...)...)
	answersAre(t, append([]string{"cut 1", "ok", "cut 0", "ok", "cut 2", "ok"}, saves...)...)
	answersAre(t, append([]string{"cut 0", "ok", "cut -7", "ok"}, saves...)...)
}

// P27.1: the disk's capacity is the configuration's: one byte too few, and a Save comes to nothing. (At the mark 3 a checkpoint of the log T has 20 bytes, and 10 behind them.)
func TestCapacity(t *testing.T) {
	for capacity, mark := range map[int]int{0: 0, 29: 0, 30: 3, 4096: 3, api.MaxDisk: 3} {
		lines := logT()
		lines[0] = fmt.Sprint("config 1 1 4 1 ", capacity)
		answers := answersOf(t, text(append(lines, "feed 3", "run 99", "save", "run 99", "answer -1", "crash")...))
		want := []string{"ok -1", "ok 6", "answer 0 3 1 0", "ok 3"}
		if mark == 0 {
			want = []string{"ok -1", "ok 4", "answer 13 3 0 0", "ok 0"}
		}
		if got := answers[len(answers)-4:]; !slices.Equal(got, want) {
			t.Errorf("%d: %q", capacity, got)
		}
	}
}

// P27.1: what picks and runs tell counts, since open or the last crash; nothing else does.
func TestStat(t *testing.T) {
	answersAre(t, "stat", "stat 0 0 0 0 0", "feed 3", "ok", "get 61", "ok -1", "mark", "ok 0", "stat", "stat 0 0 0 0 0",
		"pick 0", "event 0 1 1 0 0 0", "stat", "stat 1 0 0 0 0", "pick 0", "event 0 3 1 0 0 0", "stat", "stat 2 0 1 0 0", "run 0", "ok 0", "stat", "stat 2 0 1 0 0",
		"run 5", "ok 5", "stat", "stat 7 0 3 1 0", "run 99", "ok 20", "stat", "stat 27 4 3 1 1", "pick 0", "error 9", "run 99", "ok 0", "close", "ok", "stat", "stat 27 4 3 1 1",
		"crash", "ok 0", "stat", "stat 0 0 0 0 0", "feed 1", "ok", "run 99", "ok 7", "stat", "stat 7 1 1 1 0", "crash", "ok 0", "stat", "stat 0 0 0 0 0")
}

// P27.1: a crash begins all anew but the log and what the disk has: what was fed, calls, their numbers, a Close.
func TestCrash(t *testing.T) {
	answersAre(t, "feed 3", "ok", "get 61", "ok -1", "get 62", "ok -2", "run 5", "ok 5", "close", "ok",
		"crash", "ok 0", "pick 0", "error 9", "run 9", "ok 0", "answer -1", "none", "held", "held", "get 61", "ok -1", "run 9", "ok 4", "answer -1", "answer 0 0 0 0",
		"crash", "ok 0", "crash", "ok 0", "feed 1", "ok", "run 99", "ok 7", "save", "ok -1", "run 99", "ok 6",
		"feed 2", "ok", "run 99", "ok 7", "crash", "ok 1", "store", "store 61=31", "feed 0", "error 1", "feed 1", "ok", "pick 0", "error 9", "feed 2", "ok", "pick 0", "event 0 1 2 0 0 1",
		"crash", "ok 1", "feed 3", "ok", "run 99", "ok 16", "save", "ok -1", "run 99", "ok 6", "crash", "ok 3", "crash", "ok 3", "store", "store 61=33")
}
