package txn

import (
	"bytes"
	"math"
	"slices"

	"bartizan/api"
	"bartizan/atom"
	"bartizan/batch"
	"bartizan/engine"
)

// read answers what the key has, to the transaction.
func (s *Store) read(t *transaction, key []byte) Reply {
	if o, ok := batch.Over(t.ops, key); ok {
		if o.Kind != api.Put {
			return Reply{Answer: api.NotFound}
		}
		return Reply{Answer: api.Value, Value: o.Value}
	}
	value, ok := s.engine.Get(key, api.MaxSeq)
	if !ok {
		return Reply{Answer: api.NotFound}
	}
	return Reply{Answer: api.Value, Value: value}
}

// scan answers the pairs that the transaction asks for.
func (s *Store) scan(t *transaction, q Request) []api.Pair {
	// Of the store's pairs any number may be deleted by the transaction's own
	// ops: only behind these can they be counted.
	pairs := s.engine.Scan(q.Key, q.To, math.MaxInt, false, api.MaxSeq)
	for _, o := range t.ops {
		if o.Kind != api.Put || isWithin(o.Key, q) {
			pairs = changed(pairs, o)
		}
	}
	if q.Back {
		slices.Reverse(pairs)
	}
	return pairs[:min(max(q.Most, 0), len(pairs))]
}

// isWithin tells whether the key is one of those that the scan goes through.
func isWithin(key []byte, q Request) bool {
	return !atom.Less(key, q.Key) && (len(q.To) == 0 || atom.Less(key, q.To))
}

// changed answers the pairs, which rise, behind the op.
func changed(pairs []api.Pair, o api.Op) []api.Pair {
	at, ok := place(pairs, o.Key)
	behind := at
	switch {
	case o.Kind == api.Range:
		behind, _ = place(pairs, o.Value)
	case ok:
		behind = at + 1
	}
	if o.Kind != api.Put {
		return slices.Delete(pairs, at, behind)
	}
	// The op is kept, and the answer isn't: so they share nothing.
	p := api.Pair{Key: bytes.Clone(o.Key), Value: bytes.Clone(o.Value)}
	return slices.Replace(pairs, at, behind, p)
}

// place answers how many of the pairs have keys below key, and whether one has it itself.
func place(pairs []api.Pair, key []byte) (int, bool) {
	return slices.BinarySearchFunc(pairs, key, func(p api.Pair, key []byte) int {
		return bytes.Compare(p.Key, key)
	})
}

// Known answers the transactions that are known and not dead, rising.
func (s *Store) Known() []uint64 {
	if s == nil {
		return nil
	}
	return s.alive()
}

// Held answers what is prepared, by rising names.
func (s *Store) Held() []engine.Held {
	if s == nil {
		return nil
	}
	return s.engine.Held()
}

// All answers all pairs of the store, by rising keys.
func (s *Store) All() []api.Pair {
	if s == nil {
		return nil
	}
	return s.engine.Scan(nil, nil, math.MaxInt, false, api.MaxSeq)
}

// Waits answers for whom the transaction's request waits, rising.
func (s *Store) Waits(id uint64) []uint64 {
	if s == nil {
		return nil
	}
	return s.table.Blockers(id)
}

// Pending tells whether the transaction's request is pending.
func (s *Store) Pending(id uint64) bool {
	if s == nil {
		return false
	}
	t, ok := s.find(id)
	return ok && t.isPending()
}

// Now answers the tick.
func (s *Store) Now() uint64 {
	if s == nil {
		return 0
	}
	return s.now
}

// Up tells whether the power was on all the time.
func (s *Store) Up() bool {
	return s != nil && s.engine.Up()
}
