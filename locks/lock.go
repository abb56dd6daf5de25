package locks

import (
	"bytes"

	"bartizan/api"
	"bartizan/atom"
)

// isRight tells whether the lock is one that may be asked for.
func isRight(l api.Lock) bool {
	return l.Txn != 0 && l.Mode >= api.Shared && l.Mode <= api.Exclusive &&
		len(l.From) <= api.MaxKey+1 && len(l.To) <= api.MaxKey+1 && isBelow(l.From, l.To)
}

// isBelow tells whether key is below to, at which a lock ends: empty it is the end of all keys.
func isBelow(key, to []byte) bool {
	return len(to) == 0 || atom.Less(key, to)
}

// overlap tells whether a key is in both.
func overlap(a, b api.Lock) bool {
	return isBelow(a.From, b.To) && isBelow(b.From, a.To)
}

// covers tells whether all keys of b are in a.
func covers(a, b api.Lock) bool {
	return !atom.Less(b.From, a.From) && !isPast(b.To, a.To)
}

// isPast tells whether a lock that ends at to reaches further than one that ends at other.
func isPast(to, other []byte) bool {
	return len(other) > 0 && (len(to) == 0 || atom.Less(other, to))
}

// together tells whether both may be granted, even if they overlap.
func together(a, b api.Lock) bool {
	switch {
	case a.Txn == b.Txn:
		return true
	case a.Mode == api.Shared:
		return b.Mode != api.Exclusive
	case b.Mode == api.Shared:
		return a.Mode != api.Exclusive
	}
	return false
}

// clash tells whether one of the two can't be granted beside the other.
func clash(a, b api.Lock) bool {
	return overlap(a, b) && !together(a, b)
}

// apart copies a lock, since what is handed in isn't kept, and what is kept isn't handed out.
func apart(l api.Lock) api.Lock {
	return api.Lock{Txn: l.Txn, From: bytes.Clone(l.From), To: bytes.Clone(l.To), Mode: l.Mode}
}
