package shell_test

import (
	"fmt"
	"math/rand"
	"regexp"
	"strconv"
	"strings"
	"testing"

	"bartizan/api"
	"bartizan/txn"
	"bartizan/yard"
)

// form is how lines of a kind look, and the step that they tell by their words.
type form struct {
	pattern *regexp.Regexp
	step    func(w []string) yard.Step
}

// line answers a form: N is a number, K a word, V a word or an empty one.
func line(pattern string, step func(w []string) yard.Step) form {
	for letter, words := range map[string]string{"N": `(0|[1-9][0-9]{0,8})`, "K": `([a-z0-9]{1,60})`, "V": `(-|[a-z0-9]{1,60})`} {
		pattern = strings.ReplaceAll(pattern, letter, words)
	}
	return form{regexp.MustCompile(`\A` + pattern + `\z`), step}
}

func number(word string) int {
	n, _ := strconv.Atoi(word)
	return n
}

// textOf answers the word's bytes; of - none.
func textOf(word string) []byte {
	return []byte(strings.TrimPrefix(word, "-"))
}

// request answers a form of a Do whose request's texts and Most are told by set.
func request(pattern string, kind byte, set func(q *txn.Request, w []string)) form {
	return line(pattern, func(w []string) yard.Step {
		q := txn.Request{Kind: kind}
		set(&q, w[1:])
		return yard.Step{Kind: yard.Do, ID: uint64(number(w[0])), Q: q}
	})
}

// numbered answers a form of a step of that kind with one number.
func numbered(pattern string, kind byte) form {
	return line(pattern, func(w []string) yard.Step { return yard.Step{Kind: kind, N: number(w[0])} })
}

func setKey(q *txn.Request, w []string)  { q.Key = textOf(w[0]) }
func setName(q *txn.Request, w []string) { q.Name = textOf(w[0]) }
func setNone(*txn.Request, []string)     {}
func setPut(q *txn.Request, w []string)  { q.Key, q.Value = textOf(w[0]), textOf(w[1]) }
func setTo(q *txn.Request, w []string)   { q.Key, q.To = textOf(w[0]), textOf(w[1]) }
func setScan(q *txn.Request, w []string) {
	q.Key, q.To, q.Most = textOf(w[0]), textOf(w[1]), number(w[2])
}
func setBack(q *txn.Request, w []string) {
	setScan(q, w)
	q.Back = true
}

// forms are those of all lines that tell a step.
func forms() []form {
	return []form{
		line("begin N N", func(w []string) yard.Step {
			return yard.Step{Kind: yard.Begin, N: number(w[0]), Life: number(w[1])}
		}),
		request("get N K", txn.Get, setKey),
		request("claim N K", txn.Claim, setKey),
		request("del N K", txn.Delete, setKey),
		request("put N K V", txn.Put, setPut),
		request("range N K K", txn.Range, setTo),
		request("scan N V V N", txn.Scan, setScan),
		request("back-scan N V V N", txn.Scan, setBack),
		request("save N", txn.Save, setNone),
		request("back N", txn.Back, setNone),
		request("pop N", txn.Pop, setNone),
		request("prepare N K", txn.Prepare, setName),
		request("commit N", txn.Commit, setNone),
		request("rollback N", txn.Rollback, setNone),
		line("run N", func(w []string) yard.Step { return yard.Step{Kind: yard.Run, ID: uint64(number(w[0]))} }),
		numbered("tick N", yard.Tick),
		line("yes K", func(w []string) yard.Step {
			return yard.Step{Kind: yard.Decide, Q: txn.Request{Name: textOf(w[0])}, Commit: true}
		}),
		line("no K", func(w []string) yard.Step {
			return yard.Step{Kind: yard.Decide, Q: txn.Request{Name: textOf(w[0])}}
		}),
		line("flush", func([]string) yard.Step { return yard.Step{Kind: yard.Flush} }),
		numbered("compact N", yard.Compact),
		numbered("arm N", yard.Arm),
		line("crash N N", func(w []string) yard.Step {
			n := number(w[0])
			return yard.Step{Kind: yard.Crash, Keep: []int{n, n, n, n}, N: number(w[1])}
		}),
		line("reopen", func([]string) yard.Step { return yard.Step{Kind: yard.Reopen} }),
	}
}

// model tells a script's lines by a yard that is stepped here.
type model struct {
	y     *yard.Yard
	forms []form
}

func newModel(t *testing.T) *model {
	t.Helper()
	y, err := yard.New(yard.Config{Room: 65536, Txn: txn.Config{Locks: 100, Each: 50}})
	is(t, "New's error", err, api.OK)
	return &model{y, forms()}
}

// words are the answers, by their numbers.
var words = strings.Fields("ok value not-found waiting busy timed-out deadlock lock-limit " +
	"expired bad-state duplicate too-large disk-full stalled exhausted gone")

// told answers what is told of a line.
func (m *model) told(text string) string {
	told := ""
	switch text {
	case "all":
		told = "pairs"
		for _, p := range m.y.Store().All() {
			told += fmt.Sprintf(" %s=%s", p.Key, p.Value)
		}
		return told
	case "held":
		told = "names"
		for _, h := range m.y.Store().Held() {
			told += " " + string(h.Name)
		}
		return told
	case "known":
		told = "txns"
		for _, id := range m.y.Store().Known() {
			told += fmt.Sprint(" ", id)
		}
		return told
	}
	for _, f := range m.forms {
		if w := f.pattern.FindStringSubmatch(text); w != nil {
			return m.step(f.step(w[1:]))
		}
	}
	return "error 14"
}

// step answers what is told of a step.
func (m *model) step(s yard.Step) string {
	e, err := m.y.Step(s)
	if err != api.OK {
		return fmt.Sprintf("error %d", err)
	}
	told := words[e.Reply.Answer]
	switch {
	case s.Kind == yard.Begin && told == "ok":
		told = fmt.Sprintf("txn %d", e.ID)
	case told == "value":
		told += " " + string(e.Reply.Value)
	}
	for _, p := range e.Reply.Pairs {
		told += fmt.Sprintf(" %s=%s", p.Key, p.Value)
	}
	return told
}

// same fails unless Run tells of the lines what the model does; it answers that.
func same(t *testing.T, lines []string) []string {
	t.Helper()
	m := newModel(t)
	var want []string
	for _, l := range lines {
		want = append(want, m.told(l))
	}
	got := strings.Split(run(t, strings.Join(lines, "\n")+"\n"), "\n")
	if len(got) != len(want)+1 {
		t.Fatalf("%d answers of %d lines", len(got)-1, len(want))
	}
	for i, w := range want {
		if got[i] != w {
			t.Fatalf("line %d, %q: %q, want %q", i, lines[i], got[i], w)
		}
	}
	return want
}

// pick answers one of the texts.
func pick(r *rand.Rand, texts ...string) string {
	return texts[r.Intn(len(texts))]
}

// some answers the number of a transaction that is known, or mostly so.
func (m *model) some(r *rand.Rand) string {
	known := m.y.Store().Known()
	if len(known) == 0 || r.Intn(20) == 0 {
		return strconv.Itoa(r.Intn(9))
	}
	return strconv.FormatUint(known[r.Intn(len(known))], 10)
}

// rolled answers a line that tells a step, or nothing, by chance.
func (m *model) rolled(r *rand.Rand) string {
	id, few, most := m.some(r), strconv.Itoa(r.Intn(30)), strconv.Itoa(r.Intn(7))
	key := func() string { return pick(r, "a", "b", "c", "d", "dd", "e9", "0") }
	end := func() string { return pick(r, "-", key()) }
	name := pick(r, "p", "q", "r1", strings.Repeat("n", 31+r.Intn(3)))
	if !m.y.Store().Up() && r.Intn(4) == 0 {
		return pick(r, "crash "+few+" "+most, "reopen")
	}
	switch r.Intn(26) {
	case 0, 1:
		return "begin " + pick(r, "1", "3", "9", "0") + " " + pick(r, "4", "30", "999999999", "999999999")
	case 2, 3:
		return "get " + id + " " + key()
	case 4:
		return "claim " + id + " " + key()
	case 5:
		return "del " + id + " " + key()
	case 6, 7, 8, 9:
		return "put " + id + " " + key() + " " + pick(r, "-", "x", most, strings.Repeat("v", 60))
	case 10:
		return "range " + id + " " + key() + " " + key()
	case 11:
		return pick(r, "scan ", "back-scan ") + id + " " + end() + " " + end() + " " + most
	case 12:
		return pick(r, "save ", "back ", "pop ") + id
	case 13:
		return "prepare " + id + " " + name
	case 14, 15:
		return pick(r, "commit ", "commit ", "rollback ") + id
	case 16, 17, 18:
		return "run " + id
	case 19:
		return "tick " + pick(r, "0", "1", "1", "2", "30")
	case 20:
		return pick(r, "yes ", "no ") + name
	case 21:
		return pick(r, "flush", "flush", "compact 0", "compact 1", "compact 2")
	case 22:
		return pick(r, "arm 0", "arm 0", "arm "+few, "crash "+few+" "+most, "reopen")
	default:
		return pick(r, "all", "held", "known")
	}
}

// spoilt answers the line with a byte more, or less, or another one, or a word twice.
func spoilt(r *rand.Rand, text string) string {
	at := r.Intn(len(text))
	one := pick(r, " ", "0", "1", "-", "a", "z", "A", "\t", "\r", "\x00", "_", "\xc3", "{", "`", "/", ":", "+")
	switch r.Intn(4) {
	case 0:
		return text[:at] + one + text[at:]
	case 1:
		return text[:at] + text[at+1:]
	case 2:
		return text[:at] + one + text[at+1:]
	}
	w := strings.Split(text, " ")
	return text + " " + w[r.Intn(len(w))]
}

// roll answers lines by chance, each picked by what those ahead of it led to; each
// but one of so many is as it should be.
func roll(t *testing.T, seed int64, count, spoil int) []string {
	t.Helper()
	r := rand.New(rand.NewSource(seed))
	m := newModel(t)
	var lines []string
	for range count {
		l := m.rolled(r)
		for r.Intn(spoil) == 0 {
			l = spoilt(r, l+" ")
		}
		m.told(l)
		lines = append(lines, l)
	}
	return lines
}

func TestLongRuns(t *testing.T) {
	seen := map[string]int{}
	for seed := range int64(150) {
		for _, told := range same(t, roll(t, seed, 400, 40)) {
			word, _, _ := strings.Cut(told, " ")
			seen[word]++
		}
	}
	for _, word := range append(words, "pairs", "names", "txns", "txn", "error") {
		// Neither the room nor the locks, nor the numbers, can be used up by these.
		if seen[word] == 0 && word != "disk-full" && word != "lock-limit" && word != "exhausted" {
			t.Errorf("no line was answered %s", word)
		}
	}
}

// Lines that differ a bit from right ones.
func TestSpoiltLines(t *testing.T) {
	for seed := range int64(60) {
		same(t, roll(t, seed, 300, 2))
	}
}
