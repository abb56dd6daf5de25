package glass

import (
	"bytes"
	"slices"

	"bartizan/api"
	"bartizan/atom"
	"bartizan/tomb"
)

// Keep answers those entries and spans that have to be kept, so that as of each
// of seqs, and as of MaxSeq, the same is seen.
func Keep(l []api.Entry, spans []api.Span, bottom bool, seqs ...uint64) ([]api.Entry, []api.Span) {
	numbers := append(slices.Clone(seqs), api.MaxSeq)
	slices.Sort(numbers)
	stay := needed(l, tomb.New(spans...), numbers)
	if bottom {
		stay = withoutIdle(stay)
		spans = overOlder(spans, stay)
	}
	return entriesApart(stay), spansApart(spans)
}

// needed answers the entries that somebody sees, or is kept from seeing an older one by.
func needed(l []api.Entry, set *tomb.Set, numbers []uint64) []api.Entry {
	var stay []api.Entry
	for i, e := range l {
		at, _ := slices.BinarySearch(numbers, e.Key.Seq)
		if at == len(numbers) {
			continue
		}
		// The least number that reaches the entry is enough: what is newer than it
		// or covers it as of that number does so as of all greater ones, too.
		if isNewest(l, i, numbers[at]) && !isErased(set, e.Key, numbers[at]) {
			stay = append(stay, e)
		}
	}
	return stay
}

// withoutIdle leaves out the deletes behind which no older entry of their key stays.
func withoutIdle(l []api.Entry) []api.Entry {
	var stay []api.Entry
	// From the back, so that each key's oldest version comes first.
	for _, e := range slices.Backward(l) {
		idle := len(stay) == 0 || !bytes.Equal(stay[len(stay)-1].Key.User, e.Key.User)
		if e.Key.Kind != api.Delete || !idle {
			stay = append(stay, e)
		}
	}
	slices.Reverse(stay)
	return stay
}

// overOlder answers the spans that cover one of the entries that is older than they are.
func overOlder(spans []api.Span, l []api.Entry) []api.Span {
	var stay []api.Span
	for _, s := range spans {
		if slices.ContainsFunc(l, func(e api.Entry) bool { return e.Key.Seq < s.Seq && covers(s, e.Key.User) }) {
			stay = append(stay, s)
		}
	}
	return stay
}

func covers(s api.Span, key []byte) bool {
	return !atom.Less(key, s.From) && atom.Less(key, s.To)
}

func entriesApart(l []api.Entry) []api.Entry {
	var all []api.Entry
	for _, e := range l {
		k := api.Key{User: bytes.Clone(e.Key.User), Seq: e.Key.Seq, Kind: e.Key.Kind}
		all = append(all, api.Entry{Key: k, Value: bytes.Clone(e.Value)})
	}
	return all
}

func spansApart(l []api.Span) []api.Span {
	var all []api.Span
	for _, s := range l {
		all = append(all, api.Span{From: bytes.Clone(s.From), To: bytes.Clone(s.To), Seq: s.Seq})
	}
	return all
}
