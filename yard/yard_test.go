package yard_test

import (
	"math"
	"strings"
	"testing"

	"bartizan/api"
	"bartizan/disk"
	"bartizan/txn"
	"bartizan/yard"
)

func TestExample(t *testing.T) {
	x := fresh(t)
	is(t, "ID", x.step(begin(5, 50), "ok").ID, 1)
	x.do(1, put("a", "x"), "ok")
	x.do(1, prepare("p"), "ok")
	x.step(crash(0), "ok")
	x.has("|p(2:a:x)")
	x.step(decide("p", true), "ok")
	x.has("a=x|")
}

func TestNewErrors(t *testing.T) {
	good := wide()
	for _, c := range []struct {
		change func(*yard.Config)
		want   api.Errno
	}{
		{func(c *yard.Config) {}, api.OK},
		{func(c *yard.Config) { c.Room = 0 }, api.ErrArg},
		{func(c *yard.Config) { c.Room = -1 }, api.ErrArg},
		{func(c *yard.Config) { c.Room = api.MaxDisk + 1 }, api.ErrArg},
		{func(c *yard.Config) { c.Room = math.MinInt }, api.ErrArg},
		{func(c *yard.Config) { c.Room = 1 }, api.ErrFull},
		{func(c *yard.Config) { c.Seq = api.MaxSeq }, api.OK},
		{func(c *yard.Config) { c.Seq = api.MaxSeq + 1 }, api.ErrSeq},
		{func(c *yard.Config) { c.Seq = math.MaxUint64 }, api.ErrSeq},
		{func(c *yard.Config) { c.Txn.Locks = 0 }, api.ErrArg},
		{func(c *yard.Config) { c.Txn.Locks = api.MaxLocks + 1 }, api.ErrArg},
		{func(c *yard.Config) { c.Txn.Each = 0 }, api.ErrArg},
		{func(c *yard.Config) { c.Txn.Each = -1 }, api.ErrArg},
		{func(c *yard.Config) { c.Txn.Locks, c.Txn.Each = 1, 1 }, api.OK},
		// disk.New's error goes ahead of Format's, and that ahead of Open's.
		{func(c *yard.Config) { c.Room, c.Seq = 0, math.MaxUint64 }, api.ErrArg},
		{func(c *yard.Config) { c.Seq, c.Txn.Locks = math.MaxUint64, 0 }, api.ErrSeq},
		{func(c *yard.Config) { c.Room, c.Txn.Locks = 1, 0 }, api.ErrFull},
		{func(c *yard.Config) { c.Room, c.Seq = 1, math.MaxUint64 }, api.ErrSeq},
	} {
		config := good
		c.change(&config)
		y, err := yard.New(config)
		is(t, "New's error", err, c.want)
		is(t, "New answers a yard", y != nil, c.want == api.OK)
	}
}

// leastRoom answers the least room that a call is right with.
func leastRoom(isRight func(d *disk.Disk) bool) int {
	for room := 1; ; room++ {
		d, _ := disk.New(room)
		if isRight(d) {
			return room
		}
	}
}

// A disk that is enough for a Format may be too little for an Open.
func TestNewOpensNoFullDisk(t *testing.T) {
	c := wide()
	formatted := leastRoom(func(d *disk.Disk) bool { return txn.Format(d, 0) == api.OK })
	opened := leastRoom(func(d *disk.Disk) bool {
		if txn.Format(d, 0) != api.OK {
			return false
		}
		_, err := txn.Open(d, c.Txn)
		return err == api.OK
	})
	if formatted >= opened {
		t.Fatalf("Format needs %d, Open %d", formatted, opened)
	}
	for _, room := range []int{formatted, opened - 1, opened} {
		c.Room = room
		want := api.ErrFull
		if room == opened {
			want = api.OK
		}
		y, err := yard.New(c)
		is(t, "New's error", err, want)
		is(t, "New answers a yard", y != nil, want == api.OK)
	}
}

func TestNewYard(t *testing.T) {
	x := newStage(t, yard.Config{Room: 5000, Seq: 7, Txn: txn.Config{Locks: 2, Each: 2}})
	is(t, "told", told(x.y.Store()), "false true []|||0")
	is(t, "how many are noted", len(x.y.Events()), 0)
	is(t, "On", x.y.Disk().On(), true)
	is(t, "the files", strings.Join(x.y.Disk().List(), " "), "current log.2 manifest.2")
	is(t, "Arm", x.y.Disk().Arm(1), api.OK)
	is(t, "Append of as much as there is room for", x.y.Disk().Append("log.2", make([]byte, 5000-x.y.Disk().Used())), api.ErrDown)
	is(t, "Append of more", x.y.Disk().Append("log.2", make([]byte, 1)), api.ErrFull)
}

// The Seq is the store's: what is written has the numbers behind it.
func TestSeq(t *testing.T) {
	c := wide()
	c.Seq = api.MaxSeq - 2
	x := newStage(t, c)
	x.begin(2)
	x.do(1, put("a", "1"), "ok")
	x.do(1, put("b", "1"), "ok")
	x.do(1, put("c", "1"), "ok")
	x.do(1, plainly(txn.Commit), "exhausted")
	x.do(2, put("d", "1"), "ok")
	x.do(2, put("e", "1"), "ok")
	x.do(2, plainly(txn.Commit), "ok")
	x.has("d=1 e=1|")
}

// The limits are those of the Config, also behind a crash.
func TestLimits(t *testing.T) {
	c := wide()
	c.Txn = txn.Config{Locks: 3, Each: 2}
	x := newStage(t, c)
	for range 3 {
		x.begin(2)
		x.do(1, get("a"), "not-found")
		x.do(1, get("b"), "not-found")
		x.do(1, get("c"), "lock-limit")
		x.do(2, get("c"), "not-found")
		x.do(2, get("d"), "lock-limit")
		x.step(crash(0), "ok")
	}
}

func TestDoAndRun(t *testing.T) {
	x := fresh(t)
	x.begin(3)
	x.do(1, put("a", "1"), "ok")
	x.do(1, put("b", "2"), "ok")
	x.do(1, get("a"), "value 1")
	x.do(1, scan("", "", 9), "ok a=1 b=2")
	x.do(1, scan("", "", 1), "ok a=1")
	x.step(do(1, txn.Request{Kind: txn.Scan, Most: 9, Back: true}), "ok b=2 a=1")
	x.do(1, span("a", "b"), "ok")
	x.do(1, claim("a"), "not-found")
	x.do(1, plainly(txn.Save), "ok")
	x.do(1, del("b"), "ok")
	x.do(1, plainly(txn.Back), "ok")
	x.do(1, plainly(txn.Pop), "ok")
	x.do(1, plainly(txn.Pop), "not-found")
	x.do(2, get("b"), "waiting")
	x.do(2, get("c"), "busy")
	x.do(3, get("b"), "waiting")
	x.step(run(2), "waiting")
	x.step(run(1), "bad-state")
	x.do(1, plainly(txn.Commit), "ok")
	x.step(run(2), "value 2")
	x.step(run(3), "value 2")
	x.do(3, plainly(99), "bad-state")
	x.do(9, get("a"), "bad-state")
	x.step(run(9), "bad-state")
	x.do(2, plainly(txn.Rollback), "ok")
	x.do(2, plainly(txn.Rollback), "bad-state")
	x.do(3, put("c", strings.Repeat("v", api.MaxValue+1)), "too-large")
	x.has("b=2|")
	ids(t, "Known", x.y.Store().Known(), 3)
}

// Of a Begin the numbers below 0 are 0, which the store refuses.
func TestBegin(t *testing.T) {
	x := fresh(t)
	for _, s := range []yard.Step{
		begin(0, 1), begin(1, 0), begin(-1, 1), begin(1, -1), begin(math.MinInt, math.MinInt),
		begin(api.MaxTicks+1, 1), begin(1, api.MaxTicks+1), begin(math.MaxInt, 1), begin(1, math.MaxInt),
	} {
		is(t, "ID", x.step(s, "bad-state").ID, 0)
	}
	is(t, "ID", x.step(begin(1, 1), "ok").ID, 1)
	is(t, "ID", x.step(begin(api.MaxTicks, api.MaxTicks), "ok").ID, 2)
	for id := uint64(3); id <= api.MaxTxns; id++ {
		is(t, "ID", x.step(begin(3, 50), "ok").ID, id)
	}
	is(t, "ID", x.step(begin(1, 1), "lock-limit").ID, 0)
	is(t, "how many are known", len(x.y.Store().Known()), api.MaxTxns)
}

// Begin's N is the wait, its Life the life.
func TestWaitAndLife(t *testing.T) {
	x := fresh(t)
	x.begin(1)
	x.do(1, put("a", "1"), "ok")
	x.step(begin(2, 4), "ok")
	x.do(2, get("a"), "waiting")
	x.step(by(yard.Tick, 1), "ok")
	x.step(run(2), "waiting")
	x.step(by(yard.Tick, 1), "ok")
	x.step(run(2), "timed-out")
	x.step(by(yard.Tick, 1), "ok")
	x.do(2, get("b"), "not-found")
	x.step(by(yard.Tick, 1), "ok")
	x.do(2, get("b"), "expired")
	x.do(2, get("b"), "bad-state")
}

// A Tick is by 1 to 1000.
func TestTick(t *testing.T) {
	x := fresh(t)
	now := uint64(0)
	for _, c := range []struct {
		n    int
		more uint64
	}{
		{1, 1}, {2, 2}, {0, 1}, {-1, 1}, {-1000, 1}, {math.MinInt, 1}, {999, 999}, {1000, 1000}, {1001, 1000}, {math.MaxInt, 1000},
	} {
		x.step(by(yard.Tick, c.n), "ok")
		now += c.more
		is(t, "Now", x.y.Store().Now(), now)
	}
}

func TestDecide(t *testing.T) {
	x := fresh(t)
	x.begin(3)
	x.do(1, put("a", "1"), "ok")
	x.do(1, prepare("p"), "ok")
	x.do(2, put("b", "2"), "ok")
	x.do(2, prepare("p"), "duplicate")
	x.do(2, prepare("q"), "ok")
	x.has("|p(2:a:1) q(2:b:2)")
	x.step(decide("r", true), "not-found")
	x.step(decide("", true), "not-found")
	x.step(decide("q", false), "ok")
	x.step(decide("q", true), "not-found")
	x.has("|p(2:a:1)")
	x.step(decide("p", true), "ok")
	x.has("a=1|")
	ids(t, "Known", x.y.Store().Known(), 3)
}

func TestFlushAndCompact(t *testing.T) {
	x := fresh(t)
	tables := func() int {
		return strings.Count(" "+strings.Join(x.y.Disk().List(), " "), " table.")
	}
	x.step(by(yard.Flush, 0), "bad-state")
	x.step(by(yard.Compact, 0), "bad-state")
	for i := range api.Tables {
		x.write("a", word(api.Answer(i)))
		x.step(by(yard.Flush, 0), "ok")
		is(t, "tables", tables(), i+1)
	}
	x.begin(1)
	x.do(5, put("b", "1"), "ok")
	x.do(5, prepare("p"), "stalled")
	x.do(5, plainly(txn.Commit), "stalled")
	for _, n := range []int{-1, 2, 3, math.MinInt, math.MaxInt, 1} {
		x.step(by(yard.Compact, n), "bad-state")
	}
	x.step(by(yard.Compact, 0), "ok")
	is(t, "tables", tables(), 1)
	x.step(by(yard.Compact, 0), "bad-state")
	x.step(by(yard.Compact, 1), "ok")
	x.step(by(yard.Compact, 1), "bad-state")
	x.do(5, plainly(txn.Commit), "ok")
	x.has("a=waiting b=1|")
}

// What a Begin, a Do .. is answered when the power has gone, or there is no store.
func goneByAll(x *stage) {
	x.t.Helper()
	for _, s := range []yard.Step{
		begin(1, 1), begin(0, 0), do(1, get("a")), do(1, plainly(0)), run(1), decide("p", true), decide("", false),
		by(yard.Tick, 1), by(yard.Flush, 0), by(yard.Compact, 0), by(yard.Compact, -1),
	} {
		is(x.t, "ID", x.step(s, "gone").ID, 0)
	}
}

// The power goes at the N-th change.
func TestArm(t *testing.T) {
	for _, n := range []int{0, -1, math.MinInt} {
		x := fresh(t)
		x.step(by(yard.Arm, 1), "ok")
		x.step(by(yard.Arm, n), "ok") // nothing is armed any more
		x.write("a", "1")
		x.has("a=1|")
	}
	x := fresh(t)
	before := x.y.Disk().Changes()
	x.write("a", "1")
	each := x.y.Disk().Changes() - before
	x.step(by(yard.Arm, 2*each), "ok")
	x.write("b", "1")
	x.begin(1)
	x.do(3, put("c", "1"), "ok")
	is(t, "On", x.y.Disk().On(), true)
	x.do(3, plainly(txn.Commit), "gone")
	is(t, "On", x.y.Disk().On(), false)
	goneByAll(x)
	x.step(by(yard.Arm, 3), "ok")
	x.fails(by(yard.Reopen, 0), api.ErrDown)
	is(t, "there is no store", x.y.Store() == nil, true)
	goneByAll(x)
	x.fails(by(yard.Reopen, 0), api.ErrDown)
	x.step(by(yard.Arm, 1), "ok")
	x.step(crash(0), "ok") // nothing is armed any more
	x.has("a=1 b=1|")
	x.write("d", "1")
}

// The store that can't be opened is none, till one can.
func TestStoreThatCantBeOpened(t *testing.T) {
	x := fresh(t)
	x.write("a", "1")
	x.step(by(yard.Arm, 1), "ok")
	x.fails(by(yard.Reopen, 0), api.ErrDown)
	is(t, "there is no store", x.y.Store() == nil, true)
	is(t, "told", told(x.y.Store()), told(nil))
	goneByAll(x)
	x.fails(by(yard.Reopen, 0), api.ErrDown)
	is(t, "Settle", x.y.Settle(5), 0)
	x.step(crash(0), "ok")
	x.has("a=1|")
	x.step(by(yard.Reopen, 0), "ok")
	x.has("a=1|")
}

// Behind a crash, too, a store can't be opened for which there is no room.
func TestFullDisk(t *testing.T) {
	c := wide()
	c.Room = 1500
	x := newStage(t, c)
	// The disk is to look at: what lies there in the way is another's.
	room := c.Room - x.y.Disk().Used()
	ok(t, x.y.Disk().Create("current.old"), x.y.Disk().Append("current.old", make([]byte, room)), x.y.Disk().Sync("current.old"))
	x.begin(1)
	x.do(1, put("a", "1"), "ok")
	x.do(1, plainly(txn.Commit), "disk-full")
	x.do(1, prepare("p"), "disk-full")
	x.step(by(yard.Reopen, 0), "ok") // what isn't the store's is deleted
	x.write("a", "1")
	for x.y.Store() != nil {
		id := x.step(begin(1, 1), "ok").ID
		x.do(id, put("b", strings.Repeat("v", 200)), "ok")
		if e, _ := x.y.Step(do(id, plainly(txn.Commit))); e.Reply.Answer != api.Fine {
			is(t, "Commit", word(e.Reply.Answer), "disk-full")
			x.fails(crash(0), api.ErrFull)
		}
	}
	goneByAll(x)
	x.fails(by(yard.Reopen, 0), api.ErrFull)
	x.fails(crash(0), api.ErrFull)
}

// A Crash keeps of the tails what Keep tells; the last byte is changed by N modulo 256.
func TestCrash(t *testing.T) {
	for _, c := range []struct {
		n    int
		torn byte
	}{{0, 0}, {1, 1}, {255, 255}, {256, 0}, {257, 1}, {-1, 255}, {-256, 0}, {math.MaxInt, 255}, {math.MinInt, 0}, {math.MinInt + 3, 3}} {
		for _, k := range []struct {
			keep []int
			left string
		}{
			{nil, ""}, {[]int{0}, ""}, {[]int{-1}, ""}, {[]int{math.MinInt}, ""}, {[]int{0, 9}, ""},
			{[]int{1}, string([]byte{'x' ^ c.torn})}, {[]int{2, 1}, string([]byte{'x', 'y' ^ c.torn})},
			{[]int{3}, "xyz"}, {[]int{math.MaxInt}, "xyz"},
		} {
			x := fresh(t)
			x.write("a", "1")
			// The disk is to look at: what stands behind the manifest's name makes
			// it the name of none, so that what the crash left of it stays.
			d := x.y.Disk()
			ok(t, d.Append("current", []byte("xyz")))
			if k.left == "" {
				x.step(crash(c.n, k.keep...), "ok")
				x.has("a=1|")
				continue
			}
			before, err := d.Read("current")
			ok(t, err)
			x.fails(crash(c.n, k.keep...), api.ErrForm)
			is(t, "there is no store", x.y.Store() == nil, true)
			is(t, "what was noted", eventText(x.last()), eventText(yard.Event{Step: crash(c.n, k.keep...)}))
			after, err := d.Read("current")
			ok(t, err)
			is(t, "what is left", string(after), strings.TrimSuffix(string(before), "xyz")+k.left)
			x.fails(by(yard.Reopen, 0), api.ErrForm)
		}
	}
}

// What Crash keeps is the Keep's, and it is torn.
func TestCrashKeeps(t *testing.T) {
	behind := func(torn int, keep ...int) string {
		x := fresh(t)
		x.begin(1)
		x.do(1, put("a", "1"), "ok")
		x.step(by(yard.Arm, 1), "ok")
		x.do(1, plainly(txn.Commit), "gone")
		x.step(crash(torn, keep...), "ok")
		return lasting(x.y.Store())
	}
	is(t, "all of it", behind(1, 999), "a=1|")
	is(t, "none", behind(1), "|")
	is(t, "none", behind(0, 0), "|")
	all := 0
	for behind(0, all) == "|" {
		all++
	}
	is(t, "all of it", behind(7, all), "a=1|")
	is(t, "all but a byte", behind(7, all-1), "|")
}

// A crash while the power is on loses what was not committed, and nothing else.
func TestCrashBetweenSteps(t *testing.T) {
	x := fresh(t)
	x.write("a", "1")
	x.begin(2)
	x.do(2, put("b", "1"), "ok")
	x.do(3, put("c", "1"), "ok")
	x.do(3, prepare("p"), "ok")
	x.step(by(yard.Tick, 5), "ok")
	x.step(crash(0), "ok")
	is(t, "told", told(x.y.Store()), "false true [1]|a=1|p(2:c:1)|0")
	x.do(2, put("b", "1"), "bad-state")
	is(t, "ID", x.step(begin(1, 1), "ok").ID, 2)
	x.do(2, get("b"), "not-found")
	x.do(2, get("c"), "waiting")
	ids(t, "Waits", x.y.Store().Waits(2), 1)
}

// A Reopen is as a crash, but that the power stays on.
func TestReopen(t *testing.T) {
	x := fresh(t)
	x.write("a", "1")
	x.begin(2)
	x.do(2, put("b", "1"), "ok")
	x.do(3, put("c", "1"), "ok")
	x.do(3, prepare("p"), "ok")
	old := x.y.Store()
	x.step(by(yard.Tick, 5), "ok")
	x.step(by(yard.Reopen, 0), "ok")
	is(t, "it is another store", x.y.Store() != old, true)
	is(t, "told", told(x.y.Store()), "false true [1]|a=1|p(2:c:1)|0")
	x.step(decide("p", false), "ok")
	x.has("a=1|")
}

// A Kind that is none: nothing happens, and nothing is noted.
func TestNoKind(t *testing.T) {
	x := fresh(t)
	x.begin(2)
	x.do(1, put("a", "1"), "ok")
	x.do(2, get("a"), "waiting")
	before, disk, noted := told(x.y.Store()), diskText(x.y.Disk()), eventsText(x.y.Events())
	for kind := int(yard.Reopen) + 1; kind < 256; kind++ {
		s := do(1, plainly(txn.Commit))
		s.Kind, s.N, s.Life, s.Keep = byte(kind), 1, 1, []int{1}
		x.fails(s, api.ErrArg)
	}
	is(t, "told", told(x.y.Store()), before)
	is(t, "the disk", diskText(x.y.Disk()), disk)
	is(t, "what was noted", eventsText(x.y.Events()), noted)
	is(t, "the kinds", yard.Begin == 0 && yard.Do == 1 && yard.Run == 2 && yard.Decide == 3 && yard.Tick == 4 &&
		yard.Flush == 5 && yard.Compact == 6 && yard.Arm == 7 && yard.Crash == 8 && yard.Reopen == 9, true)
}

func TestNil(t *testing.T) {
	var y *yard.Yard
	for _, s := range []yard.Step{begin(1, 1), by(yard.Tick, 1), by(yard.Arm, 1), crash(0), by(yard.Reopen, 0), by(77, 0)} {
		e, err := y.Step(s)
		is(t, "Step's error", err, api.ErrNone)
		is(t, "Step", eventText(e), eventText(yard.Event{}))
	}
	is(t, "Events", len(y.Events()), 0)
	is(t, "Store", y.Store() == nil, true)
	is(t, "Disk", y.Disk() == nil, true)
	for _, most := range []int{-1, 0, 1, math.MaxInt, math.MinInt} {
		is(t, "Settle", y.Settle(most), 0)
	}
}

// All that happened is noted, in order: the step as it was handed in, and what came of it.
func TestEvents(t *testing.T) {
	x := fresh(t)
	full := txn.Request{Kind: txn.Put, Key: []byte("a"), Value: []byte("1"), To: []byte("t"), Most: 3, Back: true, Name: []byte("p")}
	back := txn.Request{Kind: txn.Scan, Most: 5, Back: true}
	for _, c := range []struct {
		s    yard.Step
		id   uint64
		want string
	}{
		{begin(9, 90), 1, "ok"},
		{begin(-4, 90), 0, "bad-state"},
		{yard.Step{Kind: yard.Begin, ID: 7, Q: full, N: 9, Life: 90, Commit: true, Keep: []int{1}}, 2, "ok"},
		{yard.Step{Kind: yard.Do, ID: 1, Q: full, N: -1, Life: -2, Commit: true, Keep: []int{2}}, 0, "ok"},
		{do(1, put("b", "")), 0, "ok"},
		{do(1, get("a")), 0, "value 1"},
		{do(1, get("b")), 0, "value"},
		{do(1, back), 0, "ok b= a=1"},
		{do(2, get("a")), 0, "waiting"},
		{run(2), 0, "waiting"},
		{by(yard.Tick, -3), 0, "ok"},
		{by(yard.Tick, 2000), 0, "ok"},
		{run(2), 0, "expired"},
		{decide("q", true), 0, "not-found"},
		{by(yard.Flush, 5), 0, "bad-state"},
		{by(yard.Compact, -5), 0, "bad-state"},
		{by(yard.Arm, -5), 0, "ok"},
		{crash(-5, 1, 2, 3), 0, "ok"},
		{yard.Step{Kind: yard.Reopen, ID: 3, Q: full, N: 4, Life: 5, Commit: true, Keep: []int{6}}, 0, "ok"},
	} {
		e := x.step(c.s, c.want)
		is(t, "the step", stepText(e.Step), stepText(c.s))
		is(t, "the ID", e.ID, c.id)
		is(t, "what was noted", eventText(x.last()), eventText(e))
	}
	is(t, "how many are noted", len(x.y.Events()), 19)
	x.step(by(yard.Arm, 1), "ok")
	x.fails(by(yard.Reopen, 3), api.ErrDown)
	is(t, "what was noted", eventText(x.last()), eventText(yard.Event{Step: by(yard.Reopen, 3)}))
	is(t, "how many are noted", len(x.y.Events()), 21)
	x.step(by(yard.Flush, 0), "gone")
	is(t, "what was noted", eventText(x.last()), eventText(yard.Event{Step: by(yard.Flush, 0), Reply: txn.Reply{Answer: api.Gone}}))
	is(t, "how many are noted", len(x.y.Events()), 22)
	is(t, "what is noted stays", eventsText(x.y.Events()), eventsText(x.y.Events()))
}
