package conf_test

import (
	"math"
	"strings"
	"testing"

	"towpath/api"
	"towpath/conf"
)

// small: the chapter's C.
func small() api.Config { return api.Config{Lanes: 2, Shards: 3, Window: 4, Queue: 1} }

// sized: a configuration of so many lanes and shards.
func sized(lanes, shards int) api.Config {
	return api.Config{Lanes: lanes, Shards: shards, Window: 4, Queue: 1}
}

// shardIs: does Shard answer this one?
func shardIs(t *testing.T, c api.Config, key string, want int) {
	t.Helper()
	if n, e := conf.Shard(c, key); n != want || e != api.OK {
		t.Errorf("Shard(%v, %q) = %d, %v, want %d", c, key, n, e, want)
	}
}

// noShard: does Shard answer this error, and no shard?
func noShard(t *testing.T, c api.Config, key string, want api.Errno) {
	t.Helper()
	if n, e := conf.Shard(c, key); n != 0 || e != want {
		t.Errorf("Shard(%v, %q) = %d, %v, want %v", c, key, n, e, want)
	}
}

// tasksAre: does Tasks answer so many?
func tasksAre(t *testing.T, c api.Config, want int) {
	t.Helper()
	if n, e := conf.Tasks(c); n != want || e != api.OK {
		t.Errorf("Tasks(%v) = %d, %v, want %d", c, n, e, want)
	}
}

// nameIs: does Name answer this name and number?
func nameIs(t *testing.T, c api.Config, task int, name string, which int) {
	t.Helper()
	if s, n, e := conf.Name(c, task); s != name || n != which || e != api.OK {
		t.Errorf("Name(%v, %d) = %q, %d, %v, want %q, %d", c, task, s, n, e, name, which)
	}
}

// noName: does Name answer this error, and nothing else?
func noName(t *testing.T, c api.Config, task int, want api.Errno) {
	t.Helper()
	if s, n, e := conf.Name(c, task); s != "" || n != 0 || e != want {
		t.Errorf("Name(%v, %d) = %q, %d, %v, want %v", c, task, s, n, e, want)
	}
}

// good: is it a configuration that may be, to every call?
func good(t *testing.T, c api.Config) {
	t.Helper()
	if e := conf.Check(c); e != api.OK {
		t.Errorf("Check(%v) = %v", c, e)
	}
	noShard(t, c, "", api.ErrArg)
	tasksAre(t, c, c.Lanes+c.Shards+2)
	nameIs(t, c, 0, "dispatcher", 0)
}

// bad: does every call refuse it with ErrConfig, whatever else it is given?
func bad(t *testing.T, c api.Config) {
	t.Helper()
	if e := conf.Check(c); e != api.ErrConfig {
		t.Errorf("Check(%v) = %v", c, e)
	}
	for _, key := range []string{"a", "foobar", "", strings.Repeat("k", api.MaxKey+1)} {
		noShard(t, c, key, api.ErrConfig)
	}
	if n, e := conf.Tasks(c); n != 0 || e != api.ErrConfig {
		t.Errorf("Tasks(%v) = %d, %v", c, n, e)
	}
	for _, task := range append(outside(), 0, 1, 2, 3, -1, -4) {
		noName(t, c, task, api.ErrConfig)
	}
}

// outside: ints of all kinds that are neither lanes, shards, a window nor a queue.
func outside() []int {
	return []int{math.MinInt, math.MinInt + 1, -1 << 32, -1<<32 + 1, -1<<32 + 4, -1 << 31, -65535, -256, -255, -17, -16, -2, -1, 0, 65, 66, 128, 255, 256, 257, 260, 65536, 65537, 1<<31 - 1, 1 << 31, 1 << 32, 1<<32 + 1, 1<<32 + 4, math.MaxInt - 1, math.MaxInt}
}

// Each row of the chapter's examples.
func TestExamples(t *testing.T) {
	c := small()
	for _, d := range []struct {
		c    api.Config
		want api.Errno
	}{
		{c, api.OK},
		{api.Config{Lanes: 0, Shards: 3, Window: 4, Queue: 1}, api.ErrConfig},
		{api.Config{Lanes: 2, Shards: 17, Window: 4, Queue: 1}, api.ErrConfig},
		{api.Config{Lanes: 2, Shards: 3, Window: 65, Queue: 1}, api.ErrConfig},
		{api.Config{Lanes: 2, Shards: 3, Window: 4, Queue: 0}, api.ErrConfig},
	} {
		if e := conf.Check(d.c); e != d.want {
			t.Errorf("Check(%v) = %v, want %v", d.c, e, d.want)
		}
	}

	shardIs(t, c, "a", 1)
	shardIs(t, c, "a", 0xe40c292c%3)
	shardIs(t, c, "foobar", 1)
	noShard(t, c, "", api.ErrArg)

	tasksAre(t, c, 7)

	nameIs(t, c, 0, "dispatcher", 0)
	nameIs(t, c, 1, "lane", 1)
	nameIs(t, c, 2, "lane", 2)
	nameIs(t, c, 3, "owner", 0)
	nameIs(t, c, 5, "owner", 2)
	nameIs(t, c, 6, "gate", 0)
	noName(t, c, 7, api.ErrArg)
	nameIs(t, c, -4, "call", -4)
}

// P13.1: each of the four at its bounds, and one beside them.
func TestCheckAtItsBounds(t *testing.T) {
	for _, d := range []struct {
		most int
		with func(n int) api.Config
	}{
		{16, func(n int) api.Config { c := small(); c.Lanes = n; return c }},
		{16, func(n int) api.Config { c := small(); c.Shards = n; return c }},
		{64, func(n int) api.Config { c := small(); c.Window = n; return c }},
		{16, func(n int) api.Config { c := small(); c.Queue = n; return c }},
	} {
		for n := 1; n <= d.most; n++ {
			good(t, d.with(n))
		}
		bad(t, d.with(d.most+1))
		for _, n := range outside() {
			bad(t, d.with(n))
		}
	}
	good(t, api.Config{Lanes: 1, Shards: 1, Window: 1, Queue: 1})
	good(t, api.Config{Lanes: 16, Shards: 16, Window: 64, Queue: 16})
}

// P13.1: several of the four are wrong, up to all of them; none makes up for another one.
func TestCheckOfSeveral(t *testing.T) {
	bad(t, api.Config{})
	bad(t, api.Config{Lanes: 17, Shards: 17, Window: 65, Queue: 17})
	bad(t, api.Config{Lanes: 0, Shards: 16, Window: 65, Queue: 1})
	bad(t, api.Config{Lanes: -1, Shards: -1, Window: 4, Queue: 1})
	bad(t, api.Config{Lanes: math.MinInt, Shards: math.MaxInt, Window: math.MinInt, Queue: math.MaxInt})
	bad(t, api.Config{Lanes: 64, Shards: 16, Window: 16, Queue: 16})
	bad(t, api.Config{Lanes: 16, Shards: 16, Window: 16, Queue: 64})
}

// P13.2: a key is 1 to MaxKey bytes; bytes are counted, not runes.
func TestShardOfKeysAtTheirBounds(t *testing.T) {
	for shards := 1; shards <= api.MaxShards; shards++ {
		c := sized(1, shards)
		for _, n := range []int{1, 2, 63, 64} {
			key := strings.Repeat("k", n)
			shardIs(t, c, key, shardOf(key, shards))
		}
		for _, n := range []int{65, 66, 128, 255, 256, 257, 1 << 16, 1<<16 + 1} {
			noShard(t, c, strings.Repeat("k", n), api.ErrArg)
		}
		noShard(t, c, "", api.ErrArg)
		wide := strings.Repeat("ä", 32) // 64 bytes
		shardIs(t, c, wide, shardOf(wide, shards))
		noShard(t, c, wide+"k", api.ErrArg)
	}
}

// P13.2: any bytes may be a key: each one alone, and within others.
func TestShardOfAnyBytes(t *testing.T) {
	for b := range 256 {
		for _, key := range []string{string([]byte{byte(b)}), string([]byte{'k', byte(b), 0, byte(b)})} {
			for shards := 1; shards <= api.MaxShards; shards++ {
				shardIs(t, sized(3, shards), key, shardOf(key, shards))
			}
		}
	}
}

// P13.2: hashes that are written out; some are above 2^31, and are taken without a sign.
func TestShardOfKnownHashes(t *testing.T) {
	for _, d := range []struct {
		key  string
		hash uint32
	}{{"a", 0xe40c292c}, {"b", 0xe70c2de5}, {"foobar", 0xbf9cf968}, {"fo", 0x6222e842}, {"foo", 0xa9f37ed7}, {"\x00", 0x050c5d1f}} {
		for shards := 1; shards <= api.MaxShards; shards++ {
			shardIs(t, sized(2, shards), d.key, int(int64(d.hash)%int64(shards)))
		}
	}
}

// P13.2: the lanes, the window and the queue say nothing of a shard.
func TestShardHangsOnShardsAlone(t *testing.T) {
	for n := 1; n <= 16; n++ {
		c := api.Config{Lanes: n, Shards: 7, Window: 4 * n, Queue: 17 - n}
		shardIs(t, c, "foobar", 0xbf9cf968%7)
	}
}

// P13.3: each task of each configuration has the name that DOC.md's numbers say.
func TestNamesOfAllTasks(t *testing.T) {
	for lanes := 1; lanes <= api.MaxLanes; lanes++ {
		for shards := 1; shards <= api.MaxShards; shards++ {
			c := sized(lanes, shards)
			task := 0
			next := func(name string, which int) {
				nameIs(t, c, task, name, which)
				task++
			}
			next("dispatcher", 0)
			for n := 1; n <= lanes; n++ {
				next("lane", n)
			}
			for n := 0; n < shards; n++ {
				next("owner", n)
			}
			next("gate", 0)
			tasksAre(t, c, task)
			noName(t, c, task, api.ErrArg)
			noName(t, c, task+1, api.ErrArg)
		}
	}
}

// P13.3: a task of Tasks or more is none, however great; any one below 0 is a call, however small.
func TestNamesOutside(t *testing.T) {
	for _, c := range []api.Config{small(), sized(1, 1), sized(16, 16), sized(16, 1), sized(1, 16)} {
		for _, task := range outside() {
			switch {
			case task < 0:
				nameIs(t, c, task, "call", task)
			case task > 0:
				noName(t, c, task, api.ErrArg)
			}
		}
		for task := -1; task >= -100; task-- {
			nameIs(t, c, task, "call", task)
		}
		for task := c.Lanes + c.Shards + 2; task < 100; task++ {
			noName(t, c, task, api.ErrArg)
		}
	}
}

// P13.3: the window and the queue say nothing of the tasks.
func TestTasksHangOnLanesAndShardsAlone(t *testing.T) {
	for window := 1; window <= api.MaxWindow; window++ {
		c := api.Config{Lanes: 2, Shards: 3, Window: window, Queue: 1 + window%16}
		tasksAre(t, c, 7)
		nameIs(t, c, 2, "lane", 2)
		nameIs(t, c, 5, "owner", 2)
		nameIs(t, c, 6, "gate", 0)
		noName(t, c, 7, api.ErrArg)
	}
}

// P13.4: no two tasks have the same name and number, calls among them.
func TestNoNameTwice(t *testing.T) {
	type full struct {
		name  string
		which int
	}
	for lanes := 1; lanes <= api.MaxLanes; lanes++ {
		for shards := 1; shards <= api.MaxShards; shards++ {
			c := sized(lanes, shards)
			tasks, _ := conf.Tasks(c)
			tasksAre(t, c, lanes+shards+2)
			had := map[full]int{}
			for task := -api.MaxCalls; task < tasks; task++ {
				name, which, e := conf.Name(c, task)
				if e != api.OK {
					t.Fatalf("Name(%v, %d): %v", c, task, e)
				}
				if first, ok := had[full{name, which}]; ok {
					t.Fatalf("Name(%v): %d and %d are both %s %d", c, first, task, name, which)
				}
				had[full{name, which}] = task
			}
		}
	}
}

// P13.4: a shard is one of those that there are, and each of them is that of some key; with one shard it is 0.
func TestShardsAreAllInUse(t *testing.T) {
	for shards := 1; shards <= api.MaxShards; shards++ {
		c := sized(1, shards)
		keys := make([]int, shards)
		for i := range 1000 {
			key := string([]byte{byte(i), 'k', byte(i >> 8)})
			n, e := conf.Shard(c, key)
			if e != api.OK || n < 0 || n >= shards {
				t.Fatalf("Shard(%v, %q) = %d, %v", c, key, n, e)
			}
			keys[n]++
		}
		for n, of := range keys {
			if of == 0 {
				t.Errorf("%d shards: no key has shard %d", shards, n)
			}
		}
	}
}

// R5: asked again, with others asked between, each call answers the same.
func TestAskedAgain(t *testing.T) {
	for range 3 {
		shardIs(t, small(), "foobar", 1)
		shardIs(t, sized(1, 1), "foobar", 0)
		bad(t, sized(0, 1))
		nameIs(t, small(), 5, "owner", 2)
		nameIs(t, sized(16, 16), 5, "lane", 5)
		noName(t, small(), 7, api.ErrArg)
		nameIs(t, sized(1, 1), 3, "gate", 0)
	}
}
