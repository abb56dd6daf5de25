package txn

import (
	"bytes"

	"bartizan/api"
	"bartizan/atom"
	"bartizan/ikey"
)

// The kinds of requests.
const (
	Get      = 1
	Claim    = 2
	Put      = 3
	Delete   = 4
	Range    = 5
	Scan     = 6
	Save     = 7
	Back     = 8
	Pop      = 9
	Prepare  = 10
	Commit   = 11
	Rollback = 12
)

// Request is what a transaction wants.
type Request struct {
	Kind  byte
	Key   []byte
	Value []byte
	To    []byte
	Most  int
	Back  bool
	Name  []byte
}

// mode answers the mode of the lock that a request of that kind needs; 0: it needs none.
func mode(kind byte) byte {
	switch kind {
	case Get, Scan:
		return api.Shared
	case Claim:
		return api.Update
	case Put, Delete, Range:
		return api.Exclusive
	}
	return 0
}

// hasEnd tells whether a request of that kind is of all keys from Key to To.
func hasEnd(kind byte) bool {
	return kind == Range || kind == Scan
}

// isWrite tells whether a request of that kind makes an op.
func isWrite(kind byte) bool {
	return kind == Put || kind == Delete || kind == Range
}

// isWrong tells whether the request is none that any transaction may make.
func (q Request) isWrong() bool {
	switch q.Kind {
	case Get, Claim, Put, Delete:
		return len(q.Key) == 0
	case Range:
		return len(q.Key) == 0 || !atom.Less(q.Key, q.To)
	case Scan:
		return len(q.To) > 0 && !atom.Less(q.Key, q.To)
	case Prepare:
		return len(q.Name) == 0
	case Save, Back, Pop, Commit, Rollback:
		return false
	}
	return true
}

// isLong tells whether one of the texts that the request uses has too many bytes.
func (q Request) isLong() bool {
	switch {
	case mode(q.Kind) != 0 && len(q.Key) > api.MaxKey:
		return true
	case hasEnd(q.Kind) && len(q.To) > api.MaxKey:
		return true
	case q.Kind == Put && len(q.Value) > api.MaxValue:
		return true
	}
	return q.Kind == Prepare && len(q.Name) > api.MaxName
}

// apart copies what the request uses: what is handed in isn't kept.
func (q Request) apart() Request {
	r := Request{Kind: q.Kind, Key: bytes.Clone(q.Key), Most: q.Most, Back: q.Back}
	if q.Kind == Put {
		r.Value = bytes.Clone(q.Value)
	}
	if hasEnd(q.Kind) {
		r.To = bytes.Clone(q.To)
	}
	return r
}

// op answers what the request, which is a write, does.
func (q Request) op() api.Op {
	r := q.apart()
	switch q.Kind {
	case Put:
		return api.Op{Kind: api.Put, Key: r.Key, Value: r.Value}
	case Range:
		return api.Op{Kind: api.Range, Key: r.Key, Value: r.To}
	}
	return api.Op{Kind: api.Delete, Key: r.Key}
}

// lockOf answers the lock that the request needs.
func lockOf(id uint64, q Request) api.Lock {
	l := api.Lock{Txn: id, From: q.Key, To: q.To, Mode: mode(q.Kind)}
	if !hasEnd(q.Kind) {
		l.To = ikey.After(q.Key)
	}
	return l
}

// lockOfOp answers the lock of what the op is of.
func lockOfOp(id uint64, o api.Op) api.Lock {
	l := api.Lock{Txn: id, From: o.Key, To: o.Value, Mode: api.Exclusive}
	if o.Kind != api.Range {
		l.To = ikey.After(o.Key)
	}
	return l
}
