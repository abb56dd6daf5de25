package shell

import (
	"strconv"
	"strings"

	"bartizan/api"
	"bartizan/txn"
)

// answers are the words of the answers, by their numbers from 0 on.
var answers = [...]string{
	"ok", "value", "not-found", "waiting", "busy", "timed-out", "deadlock", "lock-limit",
	"expired", "bad-state", "duplicate", "too-large", "disk-full", "stalled", "exhausted", "gone",
}

// reply tells a reply: its word and what stands behind it.
func reply(r txn.Reply) string {
	word := answers[r.Answer]
	if r.Answer == api.Value {
		return word + " " + string(r.Value)
	}
	return joined(word, pairWords(r.Pairs))
}

// failure tells an error.
func failure(err api.Errno) string {
	return "error " + strconv.Itoa(int(err))
}

// joined answers the word and, behind it, the others.
func joined(word string, others []string) string {
	return strings.Join(append([]string{word}, others...), " ")
}

// pairWords tells the pairs, each in a word.
func pairWords(l []api.Pair) []string {
	var all []string
	for _, p := range l {
		all = append(all, string(p.Key)+"="+string(p.Value))
	}
	return all
}

// heldNames answers the names under which the store holds ops.
func heldNames(s *txn.Store) []string {
	var all []string
	for _, h := range s.Held() {
		all = append(all, string(h.Name))
	}
	return all
}

// knownNumbers tells which transactions are known to the store.
func knownNumbers(s *txn.Store) []string {
	var all []string
	for _, id := range s.Known() {
		all = append(all, strconv.FormatUint(id, 10))
	}
	return all
}
