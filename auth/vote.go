package auth

import (
	"bulla/api"
	"bulla/ideal"
	"bulla/request"
)

// VoteBytes is what a vote is signed over.
func VoteBytes(kind int, view, seq int64, d api.Digest) []byte {
	return marked(voteMark, int64(kind), view, seq, int64(d))
}

// mayVote tells whether a vote's numbers may be.
func mayVote(kind int, view, seq int64, d api.Digest) bool {
	return isNum(int64(kind)) && isNum(view) && isNum(seq) && isNum(int64(d))
}

func isNum(n int64) bool {
	return n >= 0 && n <= api.MaxNum
}

// Vote signs a vote with a key.
func Vote(t *ideal.Table, l *ideal.Ledger, key, kind int, view, seq int64, d api.Digest) (api.Sign, api.Errno) {
	if !made(t, l) {
		return api.Sign{}, api.ErrMade
	}
	x := signer{table: t, ledger: l}
	return x.vote(key, kind, view, seq, d)
}

// ValidVote tells whether s is a vote of key.
func ValidVote(t *ideal.Table, l *ideal.Ledger, s api.Sign, key, kind int, view, seq int64, d api.Digest) bool {
	return mayVote(kind, view, seq, d) && isSigned(t, l, s, key, VoteBytes(kind, view, seq, d))
}

// Entry signs an entry with a key, as a pre-prepare's vote.
func Entry(t *ideal.Table, l *ideal.Ledger, key int, e api.Entry) (api.Entry, api.Errno) {
	if !made(t, l) {
		return api.Entry{}, api.ErrMade
	}
	if bad := request.CheckBatch(e.Batch); bad != api.OK {
		return api.Entry{}, bad
	}
	x := signer{table: t, ledger: l} // not request.Digest: the table would have learnt the batch where the vote comes to an error
	d := x.sum(request.PutBatch(nil, e.Batch))
	if d == 0 {
		return api.Entry{}, api.ErrFull
	}
	s, bad := x.vote(key, api.MsPrePrepare, e.View, e.Seq, d)
	if bad != api.OK {
		return api.Entry{}, bad
	}
	return api.Entry{View: e.View, Seq: e.Seq, Batch: request.Clone(e.Batch), Sign: s}, api.OK
}

// ValidEntry tells whether an entry was signed with key.
func ValidEntry(t *ideal.Table, l *ideal.Ledger, key int, e api.Entry) bool {
	if request.CheckBatch(e.Batch) != api.OK { // of such a one nothing is put, and a table may know nothing
		return false
	}
	d, known := t.Look(request.PutBatch(nil, e.Batch))
	return known && ValidVote(t, l, e.Sign, key, api.MsPrePrepare, e.View, e.Seq, d)
}
