package auth

import (
	"bulla/api"
	"bulla/ideal"
)

// signer signs over numbers of a table. The table learns behind the last error that there may be, as a call that answers an error has changed nothing.
type signer struct {
	table  *ideal.Table
	ledger *ideal.Ledger
	fresh  [][]byte // what the table does not know yet, in the order in which it is to learn it
}

// sum is the number that b has or is to get; 0, if there is no room for it. It is not asked twice for what is fresh: no batch has a vote's bytes.
func (x *signer) sum(b []byte) api.Digest {
	d, known := x.table.Look(b)
	last := x.table.Len() + len(x.fresh)
	if known || last >= api.MaxSums {
		return d
	}
	x.fresh = append(x.fresh, b)
	return api.Digest(last + 1)
}

// sign is key's signature over b.
func (x *signer) sign(key int, b []byte) (api.Sign, api.Errno) {
	d := x.sum(b)
	if d == 0 {
		return api.Sign{}, api.ErrFull
	}
	s, e := x.ledger.Sign(key, d)
	if e != api.OK {
		return api.Sign{}, e
	}
	for _, b := range x.fresh {
		x.table.Sum(b)
	}
	return s, api.OK
}

// vote is key's signature over a vote.
func (x *signer) vote(key, kind int, view, seq int64, d api.Digest) (api.Sign, api.Errno) {
	if !mayVote(kind, view, seq, d) {
		return api.Sign{}, api.ErrArg
	}
	return x.sign(key, VoteBytes(kind, view, seq, d))
}

// isSigned tells whether s is key's signature over b. It only looks: a table must not learn from a stranger's message.
func isSigned(t *ideal.Table, l *ideal.Ledger, s api.Sign, key int, b []byte) bool {
	d, known := t.Look(b)
	return known && s == api.Sign{Key: key, Digest: d} && l.Signed(s)
}

// made tells whether a call made both. A clone tells it; only what is empty is cloned, as another one's clone would cost as much as all that it holds.
func made(t *ideal.Table, l *ideal.Ledger) bool {
	return (t.Len() > 0 || t.Clone() != nil) && (l.Len() > 0 || l.Clone() != nil)
}
