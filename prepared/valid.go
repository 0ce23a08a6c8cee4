package prepared

import (
	"bulla/api"
	"bulla/auth"
	"bulla/ideal"
	"bulla/quorum"
	"bulla/request"
)

// Valid tells whether a certificate shows that its batch was prepared. It only looks: a table must not learn from a stranger's certificate. Whether both were made needs no asking, as a table or a ledger that no call made knows of no vote.
func Valid(t *ideal.Table, l *ideal.Ledger, f int, p api.Prepared) bool {
	primary := quorum.Primary(f, p.View)
	if primary < 0 || !isSeq(p.Seq) { // nobody leads, where f or View may not be
		return false
	}
	return isBatch(t, l, p) &&
		auth.ValidVote(t, l, p.First, primary, api.MsPrePrepare, p.View, p.Seq, p.Digest) &&
		haveSigned(t, l, f, primary, p)
}

// isBatch tells whether a certificate's batch is valid, and has its digest.
func isBatch(t *ideal.Table, l *ideal.Ledger, p api.Prepared) bool {
	if !request.ValidBatch(t, l, p.Batch) {
		return false
	}
	d, known := t.Look(request.PutBatch(nil, p.Batch))
	return known && d == p.Digest
}

// haveSigned tells whether the prepares are those of enough backups: with the primary they make a quorum.
func haveSigned(t *ideal.Table, l *ideal.Ledger, f, primary int, p api.Prepared) bool {
	if len(p.Signs) != quorum.Big(f)-1 {
		return false
	}
	last := -1
	for _, s := range p.Signs {
		if s.Key <= last || s.Key >= quorum.Brokers(f) || s.Key == primary {
			return false
		}
		if !auth.ValidVote(t, l, s, s.Key, api.MsPrepare, p.View, p.Seq, p.Digest) {
			return false
		}
		last = s.Key
	}
	return true
}

// Above tells whether certificates are what a view-change to a view may tell of the numbers in the window above low.
func Above(t *ideal.Table, l *ideal.Ledger, f int, view, low int64, ps ...api.Prepared) bool {
	last := low
	for _, p := range ps {
		if p.Seq <= last || p.View >= view || !Valid(t, l, f, p) {
			return false
		}
		if p.Seq-api.Window > low { // not low + Window, which may be more than a number can be
			return false
		}
		last = p.Seq
	}
	return true
}
