package shell

import (
	"fmt"
	"strings"
	"testing"

	"bartizan/api"
	"bartizan/txn"
	"bartizan/yard"
)

// most is as long a text as a line may have, and nines as great a number.
var most = strings.Repeat("az09", 15)

const nines = 999999999

func do(id uint64, q txn.Request) yard.Step {
	return yard.Step{Kind: yard.Do, ID: id, Q: q}
}

func stepText(s yard.Step) string {
	return fmt.Sprintf("%d %d %d %q %q %q %d %t %q %d %d %t %v", s.Kind, s.ID, s.Q.Kind, s.Q.Key, s.Q.Value, s.Q.To, s.Q.Most, s.Q.Back, s.Q.Name, s.N, s.Life, s.Commit, s.Keep)
}

// steps are lines, and the steps that they tell.
func steps() map[string]yard.Step {
	name := txn.Request{Name: []byte("p9")}
	return map[string]yard.Step{
		"begin 0 999999999":     {Kind: yard.Begin, N: 0, Life: nines},
		"begin 999999999 7":     {Kind: yard.Begin, N: nines, Life: 7},
		"get 1 a":               do(1, txn.Request{Kind: txn.Get, Key: []byte("a")}),
		"get 999999999 " + most: do(nines, txn.Request{Kind: txn.Get, Key: []byte(most)}),
		"claim 0 0":             do(0, txn.Request{Kind: txn.Claim, Key: []byte("0")}),
		"del 20 z00":            do(20, txn.Request{Kind: txn.Delete, Key: []byte("z00")}),
		"put 1 a b":             do(1, txn.Request{Kind: txn.Put, Key: []byte("a"), Value: []byte("b")}),
		"put 1 a -":             do(1, txn.Request{Kind: txn.Put, Key: []byte("a")}),
		"put 1 a " + most:       do(1, txn.Request{Kind: txn.Put, Key: []byte("a"), Value: []byte(most)}),
		"range 1 a b":           do(1, txn.Request{Kind: txn.Range, Key: []byte("a"), To: []byte("b")}),
		"range 1 b a":           do(1, txn.Request{Kind: txn.Range, Key: []byte("b"), To: []byte("a")}),
		"scan 1 a b 5":          do(1, txn.Request{Kind: txn.Scan, Key: []byte("a"), To: []byte("b"), Most: 5}),
		"scan 1 - b 0":          do(1, txn.Request{Kind: txn.Scan, To: []byte("b")}),
		"scan 1 a - 999999999":  do(1, txn.Request{Kind: txn.Scan, Key: []byte("a"), Most: nines}),
		"scan 1 - - 5":          do(1, txn.Request{Kind: txn.Scan, Most: 5}),
		"back-scan 1 a b 5":     do(1, txn.Request{Kind: txn.Scan, Key: []byte("a"), To: []byte("b"), Most: 5, Back: true}),
		"back-scan 1 - - 1":     do(1, txn.Request{Kind: txn.Scan, Most: 1, Back: true}),
		"save 1":                do(1, txn.Request{Kind: txn.Save}),
		"back 2":                do(2, txn.Request{Kind: txn.Back}),
		"pop 3":                 do(3, txn.Request{Kind: txn.Pop}),
		"prepare 4 p9":          do(4, txn.Request{Kind: txn.Prepare, Name: []byte("p9")}),
		"prepare 4 " + most:     do(4, txn.Request{Kind: txn.Prepare, Name: []byte(most)}),
		"commit 5":              do(5, txn.Request{Kind: txn.Commit}),
		"rollback 6":            do(6, txn.Request{Kind: txn.Rollback}),
		"run 7":                 {Kind: yard.Run, ID: 7},
		"tick 0":                {Kind: yard.Tick},
		"tick 1001":             {Kind: yard.Tick, N: 1001},
		"yes p9":                {Kind: yard.Decide, Q: name, Commit: true},
		"no p9":                 {Kind: yard.Decide, Q: name},
		"flush":                 {Kind: yard.Flush},
		"compact 0":             {Kind: yard.Compact},
		"compact 12":            {Kind: yard.Compact, N: 12},
		"arm 0":                 {Kind: yard.Arm},
		"arm 3":                 {Kind: yard.Arm, N: 3},
		"crash 0 0":             {Kind: yard.Crash, Keep: []int{0, 0, 0, 0}},
		"crash 3 7":             {Kind: yard.Crash, Keep: []int{3, 3, 3, 3}, N: 7},
		"crash 999999999 256":   {Kind: yard.Crash, Keep: []int{nines, nines, nines, nines}, N: 256},
		"crash 10 999999999":    {Kind: yard.Crash, Keep: []int{10, 10, 10, 10}, N: nines},
		"reopen":                {Kind: yard.Reopen},
	}
}

func TestParse(t *testing.T) {
	for line, want := range steps() {
		s, ok := parse(line)
		if !ok || stepText(s) != stepText(want) {
			t.Errorf("parse(%q) = %s, %t, want %s", line, stepText(s), ok, stepText(want))
		}
	}
}

// refuses fails unless the line tells no step.
func refuses(t *testing.T, line string) {
	t.Helper()
	if s, ok := parse(line); ok || stepText(s) != stepText(yard.Step{}) {
		t.Errorf("parse(%q) = %s, %t", line, stepText(s), ok)
	}
}

// A right line is none any more with a word less or more, or with other room between its words.
func TestParseWords(t *testing.T) {
	for line := range steps() {
		for _, wrong := range []string{" " + line, line + " ", line + "\n", line + "\r", line + " 1", line + " a", line + " -", "x" + line, strings.ToUpper(line[:1]) + line[1:]} {
			refuses(t, wrong)
		}
		words := strings.Split(line, " ")
		for i := range words {
			without := append(append([]string{}, words[:i]...), words[i+1:]...)
			refuses(t, strings.Join(without, " "))
			if i > 0 {
				for _, gap := range []string{"  ", "\t", "\n", "", ",", "\u00a0"} {
					refuses(t, strings.Join(words[:i], " ")+gap+strings.Join(words[i:], " "))
				}
			}
		}
	}
	for _, line := range []string{"", " ", "-", "hello", "all", "held", "known", "settle 1", "open", "delete 1 a", "backscan 1 - - 1", "0"} {
		refuses(t, line)
	}
}

// Wherever a number is asked for, it is just such a one.
func TestParseNumbers(t *testing.T) {
	for _, line := range []string{
		"begin N 1", "begin 1 N", "get N a", "claim N a", "del N a", "put N a b", "range N a b", "scan N - - 1", "scan 1 - - N",
		"back-scan N - - 1", "back-scan 1 - - N", "save N", "back N", "pop N", "prepare N a", "commit N", "rollback N",
		"run N", "tick N", "compact N", "arm N", "crash N 1", "crash 1 N",
	} {
		for _, wrong := range []string{"", "-", "00", "01", "000000000", "0123", "1000000000", "9999999999", "18446744073709551617", "-1", "+1", "1_0", "1.0", "1e3", "0x1", "a", "1a", "a1", "1:", "1/", "٣"} {
			refuses(t, strings.ReplaceAll(line, "N", wrong))
		}
		for _, right := range []string{"0", "1", "9", "10", "100000000", "999999999"} {
			if _, ok := parse(strings.ReplaceAll(line, "N", right)); !ok {
				t.Errorf("parse refuses %q with the number %s", line, right)
			}
		}
	}
}

// Wherever a text is asked for, it is just such a one; an empty one only where it is told so.
func TestParseTexts(t *testing.T) {
	lines := []string{
		"get 1 K", "claim 1 K", "del 1 K", "put 1 K a", "range 1 K b", "range 1 a K", "prepare 1 K", "yes K", "no K",
		"put 1 a K", "scan 1 K b 1", "scan 1 a K 1", "back-scan 1 K b 1", "back-scan 1 a K 1",
	}
	for i, line := range lines {
		for _, wrong := range []string{"", "--", "-a", "a-", most + "a", "A", "aZ", "a_", "a.", "a`", "a{", "a/", "a:", "\x00", "a\x00", "é", "\xff", "a=b"} {
			refuses(t, strings.ReplaceAll(line, "K", wrong))
		}
		for _, right := range []string{"a", "z", "0", "9", "00", "007", most} {
			if _, ok := parse(strings.ReplaceAll(line, "K", right)); !ok {
				t.Errorf("parse refuses %q with the text %s", line, right)
			}
		}
		if _, ok := parse(strings.ReplaceAll(line, "K", "-")); ok != (i >= 9) {
			t.Errorf("parse of %q with an empty text: %t", line, ok)
		}
	}
}

func TestReply(t *testing.T) {
	want := strings.Fields("ok value not-found waiting busy timed-out deadlock lock-limit " +
		"expired bad-state duplicate too-large disk-full stalled exhausted gone")
	for i, word := range want {
		if i == int(api.Value) {
			word += " "
		}
		if got := reply(txn.Reply{Answer: api.Answer(i)}); got != word {
			t.Errorf("the answer %d: %q, want %q", i, got, word)
		}
	}
	pairs := []api.Pair{{Key: []byte("a"), Value: []byte("x")}, {Key: []byte("b")}}
	if got := reply(txn.Reply{Pairs: pairs}); got != "ok a=x b=" {
		t.Errorf("pairs: %q", got)
	}
	if got := reply(txn.Reply{Answer: api.Value, Value: []byte("x")}); got != "value x" {
		t.Errorf("a value: %q", got)
	}
}
