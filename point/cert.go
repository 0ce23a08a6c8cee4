package point

import (
	"cmp"
	"slices"

	"bulla/api"
	"bulla/auth"
	"bulla/ideal"
	"bulla/quorum"
)

// Valid tells whether a certificate is one.
func Valid(t *ideal.Table, l *ideal.Ledger, f int, c api.Cert) bool {
	if !bothMade(t, l) || quorum.Check(f) != api.OK || !mayCert(f, c) {
		return false
	}
	for _, s := range c.Signs {
		if !auth.ValidVote(t, l, s, s.Key, api.MsCheckpoint, 0, c.Seq, c.Digest) {
			return false
		}
	}
	return true
}

// bothMade tells whether a call made both. A clone tells it; only what is empty is cloned, as another one's clone would cost as much as all that it holds.
func bothMade(t *ideal.Table, l *ideal.Ledger) bool {
	return (t.Len() > 0 || t.Clone() != nil) && (l.Len() > 0 || l.Clone() != nil)
}

// mayCert tells whether a certificate may be here, of an f that may be.
func mayCert(f int, c api.Cert) bool {
	if c.Seq == 0 {
		return c.Digest == 0 && len(c.Signs) == 0
	}
	return mayMark(c.Seq, c.Digest) && maySigns(f, c.Signs)
}

// maySigns tells whether signatures are a quorum's, by the Keys alone. It ends at the first that may not be, so that no more of them than there are brokers are looked at.
func maySigns(f int, l []api.Sign) bool {
	last := -1
	for _, s := range l {
		if s.Key <= last || s.Key >= quorum.Brokers(f) {
			return false
		}
		last = s.Key
	}
	return len(l) >= quorum.Big(f)
}

// mayKnow tells whether a certificate may be here and is above the stable one.
func (p *Points) mayKnow(c api.Cert) bool {
	return mayCert(p.f, c) && c.Seq > p.stable.Seq
}

// clone is the same certificate in memory of its own.
func clone(c api.Cert) api.Cert {
	c.Signs = slices.Clone(c.Signs)
	return c
}

func cloneAll(l []api.Cert) []api.Cert {
	var all []api.Cert
	for _, c := range l {
		all = append(all, clone(c))
	}
	return all
}

// mark is a checkpoint as a certificate names it.
type mark struct {
	seq    int64
	digest api.Digest
}

func markOf(c api.Cert) mark {
	return mark{seq: c.Seq, digest: c.Digest}
}

// putCerts knows certificates as Plain tells them; no, if it would not tell them so.
func (p *Points) putCerts(l []api.Cert) bool {
	seen := map[mark]struct{}{} // not knows: of one Seq there may be many, and each would look at all ahead of it
	for i, c := range l {
		_, twice := seen[markOf(c)]
		if twice || !p.mayKnow(c) || i > 0 && l[i-1].Seq > c.Seq {
			return false
		}
		seen[markOf(c)] = struct{}{}
		p.known = append(p.known, clone(c))
	}
	return true
}

// dropCerts lets go the known certificates of numbers up to seq.
func (p *Points) dropCerts(seq int64) {
	above, _ := p.first(seq + 1)
	p.known = slices.Delete(p.known, 0, above)
}

// first is the place of the first known certificate of a number; where there is none, of the first one above it.
func (p *Points) first(seq int64) (int, bool) {
	return slices.BinarySearchFunc(p.known, seq, func(c api.Cert, seq int64) int { return cmp.Compare(c.Seq, seq) })
}

// knows tells whether a certificate of that Seq and Digest is known.
func (p *Points) knows(c api.Cert) bool {
	at, _ := p.first(c.Seq)
	for ; at < len(p.known) && p.known[at].Seq == c.Seq; at++ {
		if p.known[at].Digest == c.Digest {
			return true
		}
	}
	return false
}

// put knows a certificate, behind all others of its number, and in memory that is handed to it.
func (p *Points) put(c api.Cert) {
	behind, _ := p.first(c.Seq + 1)
	p.known = slices.Insert(p.known, behind, c)
}

// Know takes a certificate, unless one of its number is known, for whatever digest.
func (p *Points) Know(c api.Cert) bool {
	if !p.made() || !p.mayKnow(c) {
		return false
	}
	if _, there := p.first(c.Seq); there {
		return false
	}
	p.put(clone(c))
	return true
}

// Best is the greatest known certificate, At the one of a number.
func (p *Points) Best() (api.Cert, bool) {
	if !p.made() || len(p.known) == 0 {
		return api.Cert{}, false
	}
	return p.At(p.known[len(p.known)-1].Seq)
}

func (p *Points) At(seq int64) (api.Cert, bool) {
	if !p.made() {
		return api.Cert{}, false
	}
	if seq == p.stable.Seq {
		return p.Stable(), true
	}
	at, there := p.first(seq)
	if !there {
		return api.Cert{}, false
	}
	return clone(p.known[at]), true
}
