package request

import (
	"bulla/api"
	"bulla/ideal"
)

// Seal signs a request for its client.
func Seal(t *ideal.Table, l *ideal.Ledger, x api.Request) (api.Signed, api.Errno) {
	b, e := Bytes(x)
	if e != api.OK {
		return api.Signed{}, e
	}
	if !madeTable(t) || !madeLedger(l) { // both are asked ahead of Sum: with an error the table learns nothing
		return api.Signed{}, api.ErrMade
	}
	s, e := l.Sign(Key(x.Client), t.Sum(b))
	if e != api.OK {
		return api.Signed{}, e
	}
	return api.Signed{Request: clone(x), Sign: s}, api.OK
}

// Valid tells whether a request was sealed. It only looks: a table must not learn from a stranger's request.
func Valid(t *ideal.Table, l *ideal.Ledger, s api.Signed) bool {
	b, e := Bytes(s.Request)
	if e != api.OK {
		return false
	}
	d, known := t.Look(b)
	return known && s.Sign == api.Sign{Key: Key(s.Request.Client), Digest: d} && l.Signed(s.Sign)
}

// ValidBatch tells whether a batch may be, and all of it was sealed.
func ValidBatch(t *ideal.Table, l *ideal.Ledger, b api.Batch) bool {
	if CheckBatch(b) != api.OK {
		return false
	}
	for _, s := range b {
		if !Valid(t, l, s) {
			return false
		}
	}
	return true
}

// Digest is a batch's number.
func Digest(t *ideal.Table, l api.Batch) (api.Digest, api.Errno) {
	if e := CheckBatch(l); e != api.OK {
		return 0, e
	}
	if !madeTable(t) {
		return 0, api.ErrMade
	}
	d := t.Sum(PutBatch(nil, l))
	if d == 0 {
		return 0, api.ErrFull
	}
	return d, api.OK
}

// madeTable and madeLedger tell whether a call made it. A clone tells it; only what is empty is cloned, as another one's clone would cost as much as all that it holds.
func madeTable(t *ideal.Table) bool {
	return t.Len() > 0 || t.Clone() != nil
}

func madeLedger(l *ideal.Ledger) bool {
	return l.Len() > 0 || l.Clone() != nil
}
