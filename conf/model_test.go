package conf_test

import (
	"hash/fnv"
	"math/rand"
	"testing"

	"towpath/api"
	"towpath/conf"
)

// shardOf: the shard of a key, by the library's FNV-1a.
func shardOf(key string, shards int) int {
	h := fnv.New32a()
	h.Write([]byte(key))
	return int(uint64(h.Sum32()) % uint64(shards))
}

// mayBe: a configuration's bounds, as DOC.md says them.
func mayBe(c api.Config) bool {
	return !(c.Lanes < 1 || c.Lanes > 16 || c.Shards < 1 || c.Shards > 16 || c.Window < 1 || c.Window > 64 || c.Queue < 1 || c.Queue > 16)
}

// named: a task's name and number.
type named struct {
	name  string
	which int
}

// allTasks: the tasks of a configuration, calls aside, in their order.
func allTasks(c api.Config) []named {
	l := []named{{"dispatcher", 0}}
	for n := range c.Lanes {
		l = append(l, named{"lane", n + 1})
	}
	for n := range c.Shards {
		l = append(l, named{"owner", n})
	}
	return append(l, named{"gate", 0})
}

// agrees: do all calls answer what the words say?
func agrees(t *testing.T, c api.Config, key string, task int) {
	t.Helper()
	if !mayBe(c) {
		bad(t, c)
		noShard(t, c, key, api.ErrConfig)
		noName(t, c, task, api.ErrConfig)
		return
	}
	if e := conf.Check(c); e != api.OK {
		t.Errorf("Check(%v) = %v", c, e)
	}
	if len(key) >= 1 && len(key) <= 64 {
		shardIs(t, c, key, shardOf(key, c.Shards))
	} else {
		noShard(t, c, key, api.ErrArg)
	}
	all := allTasks(c)
	tasksAre(t, c, len(all))
	switch {
	case task < 0:
		nameIs(t, c, task, "call", task)
	case task < len(all):
		nameIs(t, c, task, all[task].name, all[task].which)
	default:
		noName(t, c, task, api.ErrArg)
	}
}

// upTo: mostly a number from 1 to the greatest one, now and then one just beside them.
func upTo(dice *rand.Rand, most int) int {
	if dice.Intn(12) == 0 {
		return []int{-1, 0, most + 1, most + 2}[dice.Intn(4)]
	}
	return 1 + dice.Intn(most)
}

// P13.1 to P13.4: whatever is asked, held against the words.
func TestCallsByTheDice(t *testing.T) {
	good, bad, keys, longer, names, calls := 0, 0, 0, 0, 0, 0
	dice := rand.New(rand.NewSource(13))
	for range 20000 {
		c := api.Config{Lanes: upTo(dice, 16), Shards: upTo(dice, 16), Window: upTo(dice, 64), Queue: upTo(dice, 16)}
		b := make([]byte, dice.Intn(70))
		dice.Read(b)
		task := dice.Intn(60) - 15
		agrees(t, c, string(b), task)
		if t.Failed() {
			t.FailNow()
		}
		switch {
		case !mayBe(c):
			bad++
			continue
		case len(b) >= 1 && len(b) <= 64:
			keys++
		default:
			longer++
		}
		good++
		switch {
		case task < 0:
			calls++
		case task < c.Lanes+c.Shards+2:
			names++
		}
	}
	if good < 5000 || bad < 1000 || keys < 5000 || longer < 500 || names < 2000 || calls < 1000 {
		t.Errorf("%d good, %d bad, %d keys, %d too long or empty, %d names, %d calls", good, bad, keys, longer, names, calls)
	}
}

// P13.1 to P13.4, R1: any numbers, any bytes.
func FuzzCalls(f *testing.F) {
	f.Add(2, 3, 4, 1, "a", 5)
	f.Add(16, 16, 64, 16, "foobar", 33)
	f.Add(1, 1, 1, 1, "", -4)
	f.Add(0, 17, 65, -1, "\xff", 7)
	f.Fuzz(func(t *testing.T, lanes, shards, window, queue int, key string, task int) {
		agrees(t, api.Config{Lanes: lanes, Shards: shards, Window: window, Queue: queue}, key, task)
	})
}
