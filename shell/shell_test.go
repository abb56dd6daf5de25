package shell_test

import (
	"strings"
	"testing"

	"bartizan/api"
	"bartizan/shell"
	"bartizan/txn"
	"bartizan/yard"
)

func TestConfig(t *testing.T) {
	is(t, "Config", shell.Config(), yard.Config{Room: 65536, Seq: 0, Txn: txn.Config{Locks: 100, Each: 50}})
}

func TestExample(t *testing.T) {
	is(t, "told", run(t, "begin 5 50\nput 1 a x\ncommit 1\nall\n"), "txn 1\nok\nok\npairs a=x\n")
}

// How long a script may be, in bytes.
func TestTooLong(t *testing.T) {
	full := strings.Repeat("all\n", api.MaxText/4)
	is(t, "told", run(t, full), strings.Repeat("pairs\n", api.MaxText/4))
	is(t, "told", run(t, full[1:]+"x"), "error 14\n"+strings.Repeat("pairs\n", api.MaxText/4-1)+"error 14\n")
	is(t, "told", run(t, strings.Repeat("x", api.MaxText)), "error 14\n")
	is(t, "told", run(t, strings.Repeat("\n", api.MaxText)), strings.Repeat("error 14\n", api.MaxText))
	for _, text := range []string{full + "\n", full + "a", full + full, strings.Repeat("é", api.MaxText/2) + "\n"} {
		told, err := shell.Run(text)
		is(t, "the error", err, api.ErrLong)
		is(t, "told beside the error", told, "")
	}
}

// Behind the last line the byte may be missing; a line that is empty is one, too.
func TestLines(t *testing.T) {
	for text, want := range map[string]string{
		"":               "",
		"\n":             "error 14\n",
		"\n\n":           "error 14\nerror 14\n",
		"all":            "pairs\n",
		"all\n":          "pairs\n",
		"all\n\n":        "pairs\nerror 14\n",
		"\nall":          "error 14\npairs\n",
		"all\nheld":      "pairs\nnames\n",
		"all\n\nheld\n":  "pairs\nerror 14\nnames\n",
		"all\r\nheld":    "error 14\nnames\n",
		"all\rheld":      "error 14\n",
		"all\x00":        "error 14\n",
		"all\u0085held":  "error 14\n",
		"all\vheld\fall": "error 14\n",
		" \nall":         "error 14\npairs\n",
		"\xff\nknown":    "error 14\ntxns\n",
		"#all":           "error 14\n",
	} {
		is(t, "told", run(t, text), want)
	}
}

// Each script has a yard of its own.
func TestNothingIsKept(t *testing.T) {
	for range 3 {
		play(t, `
			known > txns
			held > names
			all > pairs
			begin 5 50 > txn 1
			put 1 a x > ok
			commit 1 > ok
			begin 5 50 > txn 2
			prepare 2 p > ok
			begin 5 50 > txn 3
			arm 1 > ok
			all > pairs a=x
			held > names p
			known > txns 2 3
		`)
	}
}

// The limits are those of the Config: 50 locks of each transaction, 100 in all.
func TestLimits(t *testing.T) {
	script, want := "begin 5 50\nbegin 5 50\nbegin 5 50\n", "txn 1\ntxn 2\ntxn 3\n"
	for _, id := range []string{"1", "2"} {
		for i := range 50 {
			script += "get " + id + " " + strings.Repeat("k", i+1) + "\n"
			want += "not-found\n"
		}
		script += "get " + id + " x\n"
		want += "lock-limit\n"
	}
	is(t, "told", run(t, script+"get 3 x\ncommit 1\nget 3 x"), want+"lock-limit\nok\nnot-found\n")
}

func TestReads(t *testing.T) {
	play(t, `
		begin 5 50 > txn 1
		put 1 a 1 > ok
		put 1 b - > ok
		put 1 c 0c > ok
		get 1 a > value 1
		get 1 b > value _
		claim 1 b > value _
		claim 1 c > value 0c
		get 1 d > not-found
		claim 1 d > not-found
		scan 1 - - 9 > ok a=1 b= c=0c
		scan 1 - - 2 > ok a=1 b=
		scan 1 - - 0 > ok
		scan 1 b - 999999999 > ok b= c=0c
		scan 1 - c 9 > ok a=1 b=
		scan 1 aa c 9 > ok b=
		scan 1 d - 9 > ok
		scan 1 b a 9 > bad-state
		back-scan 1 - - 9 > ok c=0c b= a=1
		back-scan 1 - - 2 > ok c=0c b=
		back-scan 1 - c 1 > ok b=
		back-scan 1 c - 9 > ok c=0c
		back-scan 1 b b 9 > bad-state
		all > pairs
		commit 1 > ok
		all > pairs a=1 b= c=0c
	`)
}

func TestWrites(t *testing.T) {
	play(t, `
		begin 5 50 > txn 1
		put 1 a 1 > ok
		put 1 b 2 > ok
		put 1 c 3 > ok
		put 1 d 4 > ok
		commit 1 > ok
		begin 5 50 > txn 2
		del 2 a > ok
		range 2 b d > ok
		range 2 c c > bad-state
		put 2 bb - > ok
		all > pairs a=1 b=2 c=3 d=4
		commit 2 > ok
		all > pairs bb= d=4
		begin 5 50 > txn 3
		del 3 d > ok
		rollback 3 > ok
		commit 3 > bad-state
		all > pairs bb= d=4
	`)
}

func TestSavepoints(t *testing.T) {
	play(t, `
		begin 5 50 > txn 1
		back 1 > not-found
		pop 1 > not-found
		put 1 a 1 > ok
		save 1 > ok
		put 1 b 2 > ok
		save 1 > ok
		put 1 c 3 > ok
		back 1 > ok
		scan 1 - - 9 > ok a=1 b=2
		pop 1 > ok
		back 1 > ok
		pop 1 > ok
		back 1 > not-found
		commit 1 > ok
		all > pairs a=1
	`)
}

func TestNames(t *testing.T) {
	play(t, `
		begin 5 50 > txn 1
		begin 5 50 > txn 2
		begin 5 50 > txn 3
		put 1 a 1 > ok
		put 2 b 2 > ok
		put 3 c 3 > ok
		prepare 1 q > ok
		prepare 2 q > duplicate
		prepare 2 p0 > ok
		prepare 2 x > bad-state
		held > names p0 q
		known > txns 1 2 3
		yes r > not-found
		no r > not-found
		crash 0 0 > ok
		held > names p0 q
		known > txns 1 2
		all > pairs
		begin 5 50 > txn 3
		get 3 a > waiting
		yes q > ok
		run 3 > value 1
		get 3 b > waiting
		no p0 > ok
		run 3 > not-found
		held > names
		known > txns 3
		all > pairs a=1
	`)
}

// What Run answers is what was asked for, with all that stands behind it.
func TestRun(t *testing.T) {
	play(t, `
		begin 5 50 > txn 1
		begin 5 50 > txn 2
		begin 5 50 > txn 3
		begin 5 50 > txn 4
		put 1 a x > ok
		get 2 a > waiting
		claim 3 aa > not-found
		scan 3 - - 9 > waiting
		range 4 a b > waiting
		run 2 > waiting
		get 2 b > busy
		commit 1 > ok
		run 2 > value x
		run 2 > bad-state
		run 3 > ok a=x
		run 4 > waiting
		commit 2 > ok
		commit 3 > ok
		run 4 > ok
		run 9 > bad-state
		commit 4 > ok
		all > pairs
	`)
}

// Each of the answers that a script can lead to.
func TestAnswers(t *testing.T) {
	play(t, `
		begin 0 50 > bad-state
		begin 5 0 > bad-state
		begin 3 999999999 > txn 1
		begin 2 5 > txn 2
		put 1 a x > ok
		get 1 a > value x
		get 1 b > not-found
		put 2 c y > ok
		get 2 a > waiting
		get 2 a > busy
		tick 1 > ok
		run 2 > waiting
		tick 1 > ok
		run 2 > timed-out
		get 1 c > waiting
		get 2 a > deadlock
		known > txns 1
		run 1 > not-found
		begin 5 2 > txn 3
		tick 2 > ok
		known > txns 1
		get 3 a > expired
		get 3 a > bad-state
		begin 9 9 > txn 4
		prepare 1 aaaaaaaaaabbbbbbbbbbccccccccccddd > too-large
		prepare 1 aaaaaaaaaabbbbbbbbbbccccccccccdd > ok
		prepare 4 aaaaaaaaaabbbbbbbbbbccccccccccdd > duplicate
		flush > bad-state
		compact 0 > bad-state
		compact 9 > bad-state
		arm 1 > ok
		flush > bad-state
		commit 4 > ok
		commit 1 > gone
		flush > gone
		compact 0 > gone
		begin 5 50 > gone
		run 1 > gone
		yes p > gone
		tick 1 > gone
		get 0 a > gone
	`)
}

func TestTooManyTransactions(t *testing.T) {
	script := strings.Repeat("begin 1 1\n", api.MaxTxns+1) + "known\ntick 1\nknown\nbegin 1 1"
	told := strings.Split(run(t, script), "\n")
	want := "lock-limit;txns 1 2 3 4 5 6 7 8 9 10 11 12 13 14 15 16 17 18 19 20 21 22 23 24 25 26 27 28 29 30 31 32;ok;txns;txn 33;"
	is(t, "told", strings.Join(told[api.MaxTxns:], ";"), want)
}

func TestStalled(t *testing.T) {
	script := ""
	for _, id := range []string{"1", "2", "3", "4"} {
		script += "begin 5 50 > txn " + id + "\nput " + id + " k" + id + " v > ok\ncommit " + id + " > ok\nflush > ok\n"
	}
	play(t, script+`
		begin 5 50 > txn 5
		put 5 a b > ok
		commit 5 > stalled
		prepare 5 p > stalled
		compact 1 > bad-state
		compact 0 > ok
		commit 5 > ok
		compact 1 > ok
		compact 2 > bad-state
		all > pairs a=b k1=v k2=v k3=v k4=v
	`)
}

// What a tick of some number is, and a life.
func TestTick(t *testing.T) {
	play(t, `
		begin 1 1 > txn 1
		tick 0 > ok
		known > txns
		begin 1 1000 > txn 2
		tick 999 > ok
		known > txns 2
		tick 0 > ok
		known > txns
		begin 1 1000 > txn 3
		begin 1 1001 > txn 4
		tick 999999999 > ok
		known > txns 4
		tick 1 > ok
		known > txns
	`)
}
