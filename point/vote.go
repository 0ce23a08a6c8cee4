package point

import (
	"cmp"
	"maps"
	"slices"

	"bulla/api"
	"bulla/quorum"
)

// ballot is what a broker has one vote for: the same with another signature is no second one.
type ballot struct {
	broker int
	seq    int64
	digest api.Digest
}

func ballotOf(v api.Vote) ballot {
	return ballot{broker: v.Sign.Key, seq: v.Seq, digest: v.Digest}
}

// byBallot holds votes against each other by what is told first: Keys, then Seq, then Digest.
func byBallot(a, b api.Vote) int {
	x, y := ballotOf(a), ballotOf(b)
	return cmp.Or(cmp.Compare(x.broker, y.broker), cmp.Compare(x.seq, y.seq), cmp.Compare(x.digest, y.digest))
}

// mayMark tells whether a number and a digest may be a checkpoint's that is voted for.
func mayMark(seq int64, d api.Digest) bool {
	return seq >= 1 && seq <= api.MaxNum && seq%api.Interval == 0 && d >= 1 && d <= api.MaxNum
}

// mayVote tells whether a vote may be kept, if there is room. What its signature is over is not asked.
func (p *Points) mayVote(v api.Vote) bool {
	key := v.Sign.Key
	return mayMark(v.Seq, v.Digest) && key >= 0 && key < quorum.Brokers(p.f) && v.Seq > p.stable.Seq
}

// putVotes keeps votes as Plain tells them; no, if it would not tell them so.
func (p *Points) putVotes(l []api.Vote) bool {
	for i, v := range l {
		if !p.mayVote(v) || i > 0 && byBallot(l[i-1], v) >= 0 || len(p.votesOf(v.Sign.Key)) == api.MaxVotes {
			return false
		}
		p.votes[ballotOf(v)] = v
	}
	return true
}

// dropVotes lets go the votes for numbers up to seq.
func (p *Points) dropVotes(seq int64) {
	for b := range p.votes {
		if b.seq <= seq {
			delete(p.votes, b)
		}
	}
}

// list is all votes, sorted, as the map has no order.
func (p *Points) list() []api.Vote {
	return slices.SortedFunc(maps.Values(p.votes), byBallot)
}

// votesOf is a broker's votes, sorted.
func (p *Points) votesOf(broker int) []api.Vote {
	var l []api.Vote
	for b, v := range p.votes {
		if b.broker == broker {
			l = append(l, v)
		}
	}
	slices.SortFunc(l, byBallot)
	return l
}

// Vote takes a vote; true: with it there is a certificate that there was not.
func (p *Points) Vote(v api.Vote) (api.Cert, bool) {
	if !p.made() || !p.keep(v) {
		return api.Cert{}, false
	}
	c := p.counted(v.Seq, v.Digest)
	if len(c.Signs) < quorum.Big(p.f) || p.knows(c) {
		return api.Cert{}, false
	}
	p.put(c)
	return clone(c), true
}

// keep keeps a vote, if it may be and is a new one, and tells whether it did. Where its broker has no room left, the least vote has to go for it: so that whoever votes for much pushes out nobody's votes but its own.
func (p *Points) keep(v api.Vote) bool {
	_, twice := p.votes[ballotOf(v)]
	if twice || !p.mayVote(v) {
		return false
	}
	l := p.votesOf(v.Sign.Key)
	if len(l) == api.MaxVotes {
		if l[0].Seq >= v.Seq {
			return false
		}
		delete(p.votes, ballotOf(l[0]))
	}
	p.votes[ballotOf(v)] = v
	return true
}

// counted is the certificate of all votes for a number and a digest, be they enough or not.
func (p *Points) counted(seq int64, d api.Digest) api.Cert {
	c := api.Cert{Seq: seq, Digest: d}
	for broker := range quorum.Brokers(p.f) {
		if v, voted := p.votes[ballot{broker: broker, seq: seq, digest: d}]; voted {
			c.Signs = append(c.Signs, v.Sign)
		}
	}
	return c
}
