package shell

import (
	"strconv"
	"strings"

	"bartizan/txn"
	"bartizan/yard"
)

// words are what is left of a line. What is asked of them where it isn't there
// makes them wrong, so that a whole line can be asked for ahead of a look at that.
type words struct {
	left  []string
	wrong bool
}

// parse answers the step that the line tells; false: it tells none.
func parse(line string) (yard.Step, bool) {
	w := &words{left: strings.Split(line, " ")}
	s := w.step()
	if w.wrong || len(w.left) > 0 {
		return yard.Step{}, false
	}
	return s, true
}

// step answers the step that the words tell.
func (w *words) step() yard.Step {
	switch word := w.next(); word {
	case "begin":
		return yard.Step{Kind: yard.Begin, N: w.number(), Life: w.number()}
	case "run":
		return yard.Step{Kind: yard.Run, ID: w.id()}
	case "tick":
		return yard.Step{Kind: yard.Tick, N: w.number()}
	case "yes", "no":
		return yard.Step{Kind: yard.Decide, Q: txn.Request{Name: w.text()}, Commit: word == "yes"}
	case "flush":
		return yard.Step{Kind: yard.Flush}
	case "compact":
		return yard.Step{Kind: yard.Compact, N: w.number()}
	case "arm":
		return yard.Step{Kind: yard.Arm, N: w.number()}
	case "crash":
		keep := w.number()
		return yard.Step{Kind: yard.Crash, Keep: []int{keep, keep, keep, keep}, N: w.number()}
	case "reopen":
		return yard.Step{Kind: yard.Reopen}
	default:
		return yard.Step{Kind: yard.Do, ID: w.id(), Q: w.request(word)}
	}
}

// request answers what the transaction wants whose line begins with word.
func (w *words) request(word string) txn.Request {
	switch word {
	case "get":
		return txn.Request{Kind: txn.Get, Key: w.text()}
	case "claim":
		return txn.Request{Kind: txn.Claim, Key: w.text()}
	case "put":
		return txn.Request{Kind: txn.Put, Key: w.text(), Value: w.textOrNone()}
	case "del":
		return txn.Request{Kind: txn.Delete, Key: w.text()}
	case "range":
		return txn.Request{Kind: txn.Range, Key: w.text(), To: w.text()}
	case "scan", "back-scan":
		return txn.Request{Kind: txn.Scan, Key: w.textOrNone(), To: w.textOrNone(), Most: w.number(), Back: word == "back-scan"}
	case "save":
		return txn.Request{Kind: txn.Save}
	case "back":
		return txn.Request{Kind: txn.Back}
	case "pop":
		return txn.Request{Kind: txn.Pop}
	case "prepare":
		return txn.Request{Kind: txn.Prepare, Name: w.text()}
	case "commit":
		return txn.Request{Kind: txn.Commit}
	case "rollback":
		return txn.Request{Kind: txn.Rollback}
	}
	w.wrong = true
	return txn.Request{}
}

// next answers the next word; an empty one, which no line has: there is none.
func (w *words) next() string {
	if len(w.left) == 0 {
		return ""
	}
	word := w.left[0]
	w.left = w.left[1:]
	return word
}

// check makes the words wrong unless it is so.
func (w *words) check(isSo bool) {
	w.wrong = w.wrong || !isSo
}

// number answers the next word, which is to be a number.
func (w *words) number() int {
	word := w.next()
	w.check(isNumber(word))
	n, _ := strconv.Atoi(word)
	return n
}

// id answers the next word, which is to be a transaction's number.
func (w *words) id() uint64 {
	return uint64(w.number())
}

// text answers the next word, which is to be a key, a value or a name.
func (w *words) text() []byte {
	word := w.next()
	w.check(isText(word))
	return []byte(word)
}

// textOrNone answers the next word, which is to be one as text answers, or that for an empty one.
func (w *words) textOrNone() []byte {
	if len(w.left) > 0 && w.left[0] == "-" {
		w.next()
		return nil
	}
	return w.text()
}

// mostDigits and mostLetters are how long a number and a text may be.
const (
	mostDigits  = 9
	mostLetters = 60
)

// isNumber tells whether the word is a number as a line has it.
func isNumber(word string) bool {
	if len(word) < 1 || len(word) > mostDigits {
		return false
	}
	for i := range len(word) {
		if !isDigit(word[i]) {
			return false
		}
	}
	return word[0] != '0' || len(word) == 1
}

// isText tells whether the word is a key, a value or a name as a line has it.
func isText(word string) bool {
	for i := range len(word) {
		if !isDigit(word[i]) && (word[i] < 'a' || word[i] > 'z') {
			return false
		}
	}
	return len(word) >= 1 && len(word) <= mostLetters
}

func isDigit(c byte) bool {
	return c >= '0' && c <= '9'
}
