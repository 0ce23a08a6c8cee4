package window

import (
	"cmp"
	"slices"

	"bulla/api"
	"bulla/quorum"
	"bulla/request"
)

func isDigest(d api.Digest) bool {
	return d >= 1 && d <= api.MaxNum
}

// mayAccepted tells whether what a slot says of the pre-prepare may be.
func mayAccepted(s api.Slot) bool {
	if !s.Has {
		return s.Digest == 0 && s.First == api.Sign{} && len(s.Batch) == 0
	}
	return isDigest(s.Digest) && request.CheckBatch(s.Batch) == api.OK
}

// mayVote tells whether a vote may count, of whatever number. What its signature is over is not asked.
func (w *Window) mayVote(v api.VoteOf) bool {
	return isDigest(v.Digest) && v.Sign.Key >= 0 && v.Sign.Key < quorum.Brokers(w.f)
}

// mayVotes tells whether votes may stand in a slot: of each broker one at most, rising.
func (w *Window) mayVotes(l []api.VoteOf) bool {
	last := -1
	for _, v := range l {
		if v.Sign.Key <= last || !w.mayVote(v) {
			return false
		}
		last = v.Sign.Key
	}
	return true
}

// open is the slot of a number, a new one where nothing was known: whoever opens it puts something there.
func (w *Window) open(seq int64) *api.Slot {
	s, known := w.slots[seq]
	if !known {
		s = &api.Slot{Seq: seq}
		w.slots[seq] = s
	}
	return s
}

// Accept takes the pre-prepare of a number.
func (w *Window) Accept(seq int64, d api.Digest, first api.Sign, b api.Batch) api.Errno {
	if !w.made() {
		return api.ErrMade
	}
	if !w.In(seq) || !isDigest(d) {
		return api.ErrArg
	}
	if e := request.CheckBatch(b); e != api.OK {
		return e
	}
	s := w.open(seq)
	if s.Has {
		return api.ErrTwice
	}
	s.Has, s.Digest, s.First, s.Batch = true, d, first, request.Clone(b)
	return api.OK
}

// Prepare counts a broker's prepare, which may come ahead of what is accepted.
func (w *Window) Prepare(seq int64, d api.Digest, s api.Sign) api.Errno {
	v := api.VoteOf{Digest: d, Sign: s}
	if e := w.checkVote(seq, v); e != api.OK {
		return e
	}
	return count(&w.open(seq).Prepares, v)
}

// Commit counts a broker's commit, which may come ahead of what is accepted.
func (w *Window) Commit(seq int64, d api.Digest, s api.Sign) api.Errno {
	v := api.VoteOf{Digest: d, Sign: s}
	if e := w.checkVote(seq, v); e != api.OK {
		return e
	}
	return count(&w.open(seq).Commits, v)
}

func (w *Window) checkVote(seq int64, v api.VoteOf) api.Errno {
	if !w.made() {
		return api.ErrMade
	}
	if !w.In(seq) || !w.mayVote(v) {
		return api.ErrArg
	}
	return api.OK
}

// count puts a vote to its Key's place, unless that broker has voted, for whatever digest.
func count(l *[]api.VoteOf, v api.VoteOf) api.Errno {
	at, voted := slices.BinarySearchFunc(*l, v, byKey)
	if voted {
		return api.ErrTwice
	}
	*l = slices.Insert(*l, at, v)
	return api.OK
}

func byKey(a, b api.VoteOf) int {
	return cmp.Compare(a.Sign.Key, b.Sign.Key)
}

// backups is how many prepares make a quorum with the primary's pre-prepare: 2f.
func (w *Window) backups() int {
	return quorum.Big(w.f) - 1
}

// prepared is the slot of a number that is Prepared.
func (w *Window) prepared(seq int64) (*api.Slot, bool) {
	s, known := w.find(seq)
	if !known || !s.Has || len(signs(s.Prepares, s.Digest)) < w.backups() {
		return nil, false
	}
	return s, true
}

// Prepared tells whether one was accepted for a number, and enough backups have prepared its digest.
func (w *Window) Prepared(seq int64) bool {
	_, is := w.prepared(seq)
	return is
}

// Committed tells whether a number is Prepared, and a quorum has committed its digest.
func (w *Window) Committed(seq int64) bool {
	s, is := w.prepared(seq)
	return is && len(signs(s.Commits, s.Digest)) >= quorum.Big(w.f)
}

// Proof is what shows to others that a number is Prepared under a view.
func (w *Window) Proof(view, seq int64) (api.Prepared, bool) {
	s, is := w.prepared(seq)
	if !is {
		return api.Prepared{}, false
	}
	return api.Prepared{
		View:   view,
		Seq:    seq,
		Digest: s.Digest,
		First:  s.First,
		Signs:  signs(s.Prepares, s.Digest)[:w.backups()],
		Batch:  request.Clone(s.Batch),
	}, true
}

// signs are the signatures of those votes that are for a digest, in their order.
func signs(l []api.VoteOf, d api.Digest) []api.Sign {
	var some []api.Sign
	for _, v := range l {
		if v.Digest == d {
			some = append(some, v.Sign)
		}
	}
	return some
}
