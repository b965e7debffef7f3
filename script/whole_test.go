package script_test

import (
	"fmt"
	"math/rand"
	"slices"
	"strconv"
	"strings"
	"testing"

	"towpath/api"
	"towpath/count"
	"towpath/fold"
	"towpath/plan"
	"towpath/script"
	"towpath/trace"
)

// words of a transaction, as a script has them.
func wordsOf(t api.Txn) string {
	s := "txn"
	for _, w := range t.Writes {
		if w.Drop {
			s += fmt.Sprintf(" %x-", w.Key)
		} else {
			s += fmt.Sprintf(" %x=%x", w.Key, w.Val)
		}
	}
	return s
}

// opened: the lines up to open, of a log and a configuration, over a disk of 4096 bytes.
func opened(c api.Config, l []api.Txn) []string {
	lines := []string{fmt.Sprintf("config %d %d %d %d 4096", c.Lanes, c.Shards, c.Window, c.Queue)}
	for _, t := range l {
		lines = append(lines, wordsOf(t))
	}
	return append(lines, "open")
}

// someLog: of so many transactions, by the dice.
func someLog(dice *rand.Rand, length int) []api.Txn {
	l := make([]api.Txn, length)
	for i := range l {
		l[i].Number = i + 1
		for range dice.Intn(5) {
			w := api.Write{Key: oneOf(dice, "a", "b", "c", "d", " ", "\n", "-", "=", "\xff\x00"), Drop: dice.Intn(3) == 0}
			if !w.Drop {
				w.Val = oneOf(dice, "", "x", strconv.Itoa(i+1), "\n- =")
			}
			l[i].Writes = append(l[i].Writes, w)
		}
	}
	return l
}

// someConfig by the dice.
func someConfig(dice *rand.Rand) api.Config {
	return api.Config{Lanes: 1 + dice.Intn(4), Shards: 1 + dice.Intn(4), Window: 1 + dice.Intn(8), Queue: 1 + dice.Intn(3)}
}

// foldOf the first so many, as a script tells entries.
func foldOf(t testing.TB, l []api.Txn, first int) string {
	t.Helper()
	all, e := fold.Store(l, first)
	if e != api.OK {
		t.Fatal(e)
	}
	return entries("", all)
}

// P27.2: what stands behind a script that ends with a byte 10 changes nothing of what is told of it; and each beginning of a script that ends so is one.
func TestFurtherLines(t *testing.T) {
	for seed := range int64(300) {
		dice := rand.New(rand.NewSource(seed))
		l := someScript(dice, 40)
		whole, _, ok := script.Run(text(l...))
		if !ok {
			t.Fatalf("%q", l)
		}
		for n := range l {
			ahead := text(l[:n]...)
			if n == 0 {
				ahead = ""
			}
			out, line, ok := script.Run(ahead)
			if !ok || line != 0 || !strings.HasPrefix(whole, out) {
				t.Fatalf("Run(%q) = %q, %d, %v; of the whole %q", ahead, out, line, ok, whole)
			}
			if more, _, ok := script.Run(ahead + l[n]); !ok || !strings.HasPrefix(more, out) || !strings.HasPrefix(whole, more) {
				t.Fatalf("Run(%q): %q, %v", ahead+l[n], more, ok)
			}
		}
	}
}

// P27.2: what the store tells behind a run of all is the fold; and so is what it and the readers tell on the way, at their marks, whatever is picked, cut and left.
func TestFolds(t *testing.T) {
	read := 0
	for seed := range int64(600) {
		dice := rand.New(rand.NewSource(seed))
		l := someLog(dice, dice.Intn(20))
		lines := opened(someConfig(dice), l)
		for range dice.Intn(30) {
			more := oneOf(dice, "run 7", "pick 1", "pick -1", "pick 3", "pick 9", "scan - -", "scan - -", "save", "collect", "cut 1", "cut -1", "crash")
			lines = append(lines, fmt.Sprint("feed ", dice.Intn(len(l)+1)), more, fmt.Sprint("run ", dice.Intn(20)), "mark", "store", fmt.Sprint("answer -", 1+dice.Intn(3)))
		}
		lines = append(lines, "crash", fmt.Sprint("feed ", len(l)), "run 65536", "mark", "store")
		answers := answersOf(t, text(lines...))
		for i, a := range answers {
			switch {
			case lines[i] == "store":
				mark, _ := strconv.Atoi(strings.TrimPrefix(answers[i-1], "ok "))
				if want := "store" + foldOf(t, l, mark); a != want {
					t.Fatalf("%q: the store at %d: %q, want %q", lines[:i], mark, a, want)
				}
			case strings.HasPrefix(a, "answer 0 ") && strings.Contains(a, "="): // a Scan
				f := strings.Fields(a)
				mark, _ := strconv.Atoi(f[2])
				if want := strings.TrimSpace(foldOf(t, l, mark)); strings.Join(f[5:], " ") != want || f[3] != "1" || f[4] != "0" {
					t.Fatalf("%q: read at %d: %q, want %q", lines[:i], mark, a, want)
				}
				read++
			}
		}
		if n := len(answers); answers[n-2] != fmt.Sprint("ok ", len(l)) {
			t.Fatalf("%q: ends at %q", lines, answers[n-2])
		}
	}
	if read < 300 {
		t.Errorf("%d read", read)
	}
}

// eventOf an answer.
func eventOf(t testing.TB, answer string) api.Event {
	t.Helper()
	var e api.Event
	if _, err := fmt.Sscanf(answer, "event %d %d %d %d %d %d", &e.Task, &e.Kind, &e.Number, &e.Shard, &e.Count, &e.Mark); err != nil {
		t.Fatalf("%q: %v", answer, err)
	}
	return e
}

// P27.1: the events that picks tell can have been so, and are as many as were counted.
func TestEventsAreSo(t *testing.T) {
	for seed := range int64(200) {
		dice := rand.New(rand.NewSource(seed))
		l, c := someLog(dice, dice.Intn(12)), someConfig(dice)
		steps, _ := count.Log(l, 0, nil)
		lines := append(opened(c, l), fmt.Sprint("feed ", len(l)))
		ahead := len(lines)
		for range steps {
			lines = append(lines, fmt.Sprint("pick ", int32(dice.Uint32())))
		}
		answers := answersOf(t, text(append(lines, "pick 0", "run 65536", "stat")...))
		var events []api.Event
		for _, a := range answers[ahead : ahead+steps] {
			events = append(events, eventOf(t, a))
		}
		if n, e := trace.Check(c, l, api.Saved{}, events); n != steps || e != api.OK {
			t.Fatalf("%q: the place %d: %v", lines, n, e)
		}
		rest := answers[ahead+steps:]
		if rest[0] != "error 9" || rest[1] != "ok 0" || !strings.HasPrefix(rest[2], fmt.Sprintf("stat %d ", steps)) {
			t.Fatalf("%q: %q", lines, rest)
		}
	}
}

// A plan as a script: the two that it holds apart are held. (DOC.md's example 6)
func TestHeldApart(t *testing.T) {
	l := []api.Txn{{Number: 1, Writes: []api.Write{{Key: "a", Val: "1"}}}, {Number: 2, Writes: []api.Write{{Key: "b", Val: "2"}}}, {Number: 3}}
	c := api.Config{Lanes: 2, Shards: 1, Window: 4, Queue: 1}
	p, e := plan.Apart(c, l, 1, 2)
	if e != api.OK {
		t.Fatal(e)
	}
	lines := append(opened(c, l), "feed 3")
	for _, task := range p { // a pick is a place among those that can: each one is tried
		for pick := range 5 {
			try := append(slices.Clone(lines), fmt.Sprint("pick ", pick))
			answers := answersOf(t, text(try...))
			if eventOf(t, answers[len(answers)-1]).Task == task {
				lines = try
				break
			}
		}
	}
	answers := answersOf(t, text(append(lines, "held", "stat")...))
	if got := answers[len(answers)-2:]; got[0] != "held 1 2" || got[1] != fmt.Sprintf("stat %d 0 2 2 0", len(p)) {
		t.Errorf("%q: %q", lines, got)
	}
}

// P0.5: a Save of several blocks, cut behind each number of raw writes; what goes on comes to the fold, and a checkpoint that was whole stays.
func TestCutsAnywhere(t *testing.T) {
	dice := rand.New(rand.NewSource(27))
	l := someLog(dice, 40)
	whole := 0
	for cut := range 8 {
		answers := answersOf(t, text(append(opened(someConfig(dice), l), "feed 10", "run 65536", "save", "run 99", "crash", "feed 30", "run 65536", fmt.Sprint("cut ", cut), "save", "run 99", "crash", "feed 40", "run 65536", "store")...))
		n := len(answers)
		if mark := answers[n-4]; mark == "ok 30" {
			whole++
		} else if mark != "ok 10" || whole > 0 {
			t.Errorf("cut behind %d: %q", cut, answers)
		}
		if answers[n-1] != "store"+foldOf(t, l, 40) {
			t.Errorf("cut behind %d: %q", cut, answers[n-1])
		}
	}
	if whole < 2 || whole > 6 {
		t.Errorf("whole: %d times", whole)
	}
}

// The greatest log, its transactions not empty: read, saved, gone on from.
func TestTheGreatestLog(t *testing.T) {
	l := make([]api.Txn, api.MaxLog)
	for i := range l {
		l[i] = api.Txn{Number: i + 1, Writes: []api.Write{{Key: strconv.Itoa(i % 3000), Val: strconv.Itoa(i)}}}
	}
	lines := opened(api.Config{Lanes: 16, Shards: 16, Window: 64, Queue: 16}, l)
	lines[0] = "config 16 16 64 16 16777216"
	lines = append(lines, "feed 65536")
	for range 7 {
		lines = append(lines, "run 65536")
	}
	lines = append(lines, "run 65536", "run 1", "store", "stat", "collect", "save", "run 65536", "answer -1", "answer -2", "crash", "store", "scan - -", "run 65536", "answer -1")
	answers := answersOf(t, text(lines...))
	rest := answers[len(opened(api.Config{}, l))+1:]
	store := foldOf(t, l, len(l))
	for i, want := range []string{"ok 65536", "ok 65536", "ok 65536", "ok 65536", "ok 65536", "ok 65536", "ok 65536", "ok 0", "ok 0", "store" + store} {
		if rest[i] != want {
			t.Errorf("%d: %s", i, brief(rest[i]))
		}
	}
	behind := rest[10:]
	if !strings.HasPrefix(behind[0], "stat 458752 65536 ") || behind[4] != fmt.Sprint("answer 0 65536 1 ", api.MaxLog-3000) || behind[5] != "answer 0 65536 1 0" || behind[6] != "ok 65536" {
		t.Errorf("%q", behind[:7])
	}
	if behind[7] != "store"+store || behind[10] != "answer 0 65536 1 0"+store {
		t.Errorf("%s, %s", brief(behind[7]), brief(behind[10]))
	}
}

// R1: much of all: lines, idle ones, picks, crashes, calls.
func TestMuch(t *testing.T) {
	answersOf(t, strings.Repeat("\n", 1<<22))
	answersOf(t, strings.Repeat("#\n", 1<<20))
	refused(t, strings.Repeat("\n", 1<<20)+"x", 1<<20)
	answersOf(t, behind(slices.Repeat([]string{"mark", "pick 0", "crash", "feed 3", "get 61", "run 3"}, 20000)...))
	answersOf(t, behind(slices.Repeat([]string{"scan - -", "run 65536", "answer -1", "answer -2147483648"}, 10000)...))
}
