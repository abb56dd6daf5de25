package shell_test

import (
	"strconv"
	"strings"
	"testing"
)

func TestCrash(t *testing.T) {
	play(t, `
		begin 5 50 > txn 1
		put 1 a x > ok
		commit 1 > ok
		begin 5 50 > txn 2
		put 2 b y > ok
		known > txns 2
		crash 0 0 > ok
		known > txns
		all > pairs a=x
		begin 5 50 > txn 1
		known > txns 1
		reopen > ok
		known > txns
		all > pairs a=x
	`)
}

// What is kept of a commit that was under way is all or nothing, by the crash's first number.
func TestCrashKeeps(t *testing.T) {
	for keep, all := range map[string]string{"0": "pairs", "1": "pairs", "2": "pairs", "999999999": "pairs a=x"} {
		play(t, `
			begin 5 50 > txn 1
			put 1 a x > ok
			arm 1 > ok
			commit 1 > gone
			all > pairs
			crash `+keep+` 999999999 > ok
			all > `+all+`
			known > txns
			begin 5 50 > txn 1
		`)
	}
}

// The power goes at the change that is told, and at none where that is 0.
func TestArm(t *testing.T) {
	play(t, `
		arm 3 > ok
		begin 5 50 > txn 1
		begin 5 50 > txn 2
		put 1 a x > ok
		commit 1 > ok
		commit 2 > ok
		put 2 b y > bad-state
		begin 5 50 > txn 3
		put 3 b y > ok
		commit 3 > gone
		known > txns 3
		crash 0 0 > ok
		all > pairs a=x
		arm 1 > ok
		arm 0 > ok
		begin 5 50 > txn 1
		del 1 a > ok
		commit 1 > ok
		all > pairs
	`)
}

// A store that can't be opened is none, and a crash finds it again.
func TestReopenWithoutPower(t *testing.T) {
	play(t, `
		begin 5 50 > txn 1
		put 1 a x > ok
		commit 1 > ok
		begin 5 50 > txn 2
		prepare 2 p > ok
		begin 5 50 > txn 3
		arm 1 > ok
		reopen > error 9
		all > pairs
		held > names
		known > txns
		begin 5 50 > gone
		get 3 a > gone
		run 3 > gone
		yes p > gone
		tick 1 > gone
		flush > gone
		compact 0 > gone
		reopen > error 9
		arm 0 > ok
		reopen > error 9
		hello > error 14
		crash 0 0 > ok
		all > pairs a=x
		held > names p
		known > txns 1
		reopen > ok
		yes p > ok
		held > names
	`)
}

// The power may go while a store is opened behind a crash, too, if it was armed behind that.
func TestReopenWithPowerArmed(t *testing.T) {
	for n := 1; ; n++ {
		told := strings.Split(run(t, "begin 5 50\nput 1 a x\ncommit 1\narm "+strconv.Itoa(n)+"\nreopen\nall\ncrash 0 0\nall"), "\n")
		is(t, "told behind the crash", strings.Join(told[6:], ";"), "ok;pairs a=x;")
		if told[4] == "ok" {
			is(t, "all", told[5], "pairs a=x")
			is(t, "the power went ahead of that", n > 1, true)
			return
		}
		is(t, "told of the opening", told[4]+";"+told[5], "error 9;pairs")
		if n == 99 {
			t.Fatal("it is never opened")
		}
	}
}

// full answers lines that write the same again and again over tables with long
// bounds, so that what is noted of these fills the disk up; and lines behind them
// that use up what is left of it.
func full() []string {
	var lines []string
	batches := 0
	batch := func(value string, keys ...string) {
		batches++
		lines = append(lines, "begin 1 1")
		for _, k := range keys {
			lines = append(lines, "put "+strconv.Itoa(batches)+" "+k+" "+value)
		}
		lines = append(lines, "commit "+strconv.Itoa(batches))
	}
	for _, first := range []string{"1", "2"} {
		var keys []string
		for i := range 40 {
			keys = append(keys, first+strconv.Itoa(10+i)+strings.Repeat("k", 57))
		}
		batch("-", keys...)
		lines = append(lines, "flush", "compact 0")
	}
	for range 66 {
		batch("-", "0", "z")
		lines = append(lines, "flush", "compact 0")
	}
	for range 48 {
		batch(strings.Repeat("v", 60), "0", "z")
	}
	return lines
}

// There is as much room as the Config tells: a disk that is full refuses what needs
// more, and a store on it that can't be opened is none.
func TestDiskFull(t *testing.T) {
	lines := full()
	ahead := len(lines)
	told := same(t, append(lines, "all", "reopen", "begin 5 50", "all", "held", "known", "crash 0 0", "arm 0", "tick 1"))
	refused := map[string]string{}
	for i, line := range lines[:ahead] {
		if told[i] == "disk-full" {
			word, _, _ := strings.Cut(line, " ")
			refused[word] = told[i]
		}
	}
	is(t, "Compact", refused["compact"], "disk-full")
	is(t, "Commit", refused["commit"], "disk-full")
	is(t, "how many pairs", strings.Count(told[ahead], "="), 82)
	is(t, "told at the end", strings.Join(told[ahead+1:], ";"), "error 8;gone;pairs;names;txns;error 8;ok;gone")
}
