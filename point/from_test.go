package point_test

import (
	"math/rand"
	"slices"
	"testing"
	"time"

	"bulla/api"
	"bulla/point"
)

// fromIs tells where From does not take just what may be; it answers what From has made.
func fromIs(t *testing.T, c cluster, p api.Points) *point.Points {
	t.Helper()
	first := copyPlain(p)
	q, e := point.From(c.f, p)
	if !samePlain(p, first) {
		t.Fatalf("From(%d, %+v) writes to what it is handed", c.f, first)
	}
	if !c.may(p) {
		if q != nil || e != 1 {
			t.Fatalf("From(%d, %+v) = %v, %d, want ErrArg", c.f, p, q, e)
		}
		return nil
	}
	if q == nil || e != 0 || !samePlain(q.Plain(), p) {
		t.Fatalf("From(%d, %+v) = %v, %d", c.f, p, q, e)
	}
	both{t, q, modelOf(c, p)}.same()
	return q
}

// okay and wrong hold From against what a test says itself, beside the model's word.
func okay(t *testing.T, c cluster, p api.Points) {
	t.Helper()
	if fromIs(t, c, p) == nil {
		t.Errorf("From(%d, %+v) is refused", c.f, p)
	}
}

func wrong(t *testing.T, c cluster, p api.Points) {
	t.Helper()
	if fromIs(t, c, p) != nil {
		t.Errorf("From(%d, %+v) is taken", c.f, p)
	}
}

// P14.2, P14.4: New and From of an f that may not be: ErrFaults, ahead of ErrArg.
func TestWrongFaults(t *testing.T) {
	c := clusters()[0]
	for _, f := range wrongFaults() {
		if p, e := point.New(f); p != nil || e != 120 {
			t.Errorf("New(%d) = %v, %d", f, p, e)
		}
		for _, l := range []api.Points{{}, many(t, c).p.Plain(), {Stable: api.Cert{Seq: -1}}, {Votes: make([]api.Vote, 2)}, {Certs: make([]api.Cert, 2)}} {
			if p, e := point.From(f, l); p != nil || e != 120 {
				t.Errorf("From(%d, %+v) = %v, %d", f, l, p, e)
			}
		}
	}
}

// P14.4: From of Plain, empty lists among it.
func TestFrom(t *testing.T) {
	for _, c := range clusters() {
		okay(t, c, api.Points{})
		okay(t, c, api.Points{Stable: api.Cert{Signs: []api.Sign{}}, Votes: []api.Vote{}, Certs: []api.Cert{}})
		p := many(t, c).p.Plain()
		okay(t, c, p)
		okay(t, c, api.Points{Stable: p.Stable})
		okay(t, c, api.Points{Votes: p.Votes})
		okay(t, c, api.Points{Certs: p.Certs})
		okay(t, c, api.Points{Votes: p.Votes, Certs: p.Certs})
	}
	wrong(t, clusters()[1], many(t, clusters()[0]).p.Plain()) // of another f: too few signatures
	wrong(t, clusters()[0], many(t, clusters()[1]).p.Plain()) // too many brokers
}

// P14.4: the stable certificate has to be such as may be here.
func TestFromStable(t *testing.T) {
	for _, c := range clusters() {
		for _, x := range c.rightCerts() {
			okay(t, c, api.Points{Stable: x})
		}
		for _, x := range c.wrongCerts() {
			wrong(t, c, api.Points{Stable: x})
			wrong(t, c, api.Points{Stable: x, Votes: []api.Vote{vote(0, most, 1)}, Certs: []api.Cert{c.enough(most, 1)}})
		}
	}
}

// P14.4: votes have to be such as may be, and above the stable one.
func TestFromVotes(t *testing.T) {
	for _, c := range clusters() {
		for _, stable := range []api.Cert{{}, c.enough(8, 9), c.enough(most-4, 9), c.enough(most, 9)} {
			one := func(v api.Vote, may bool) {
				t.Helper()
				try := wrong
				if may {
					try = okay
				}
				try(t, c, api.Points{Stable: stable, Votes: []api.Vote{v}})
			}
			for _, seq := range append(append(someSeqs(), wrongSeqs()...), 0, stable.Seq, stable.Seq-4, stable.Seq+4) {
				for _, k := range []int{0, c.brokers - 1} {
					one(vote(k, seq, 9), seq > stable.Seq && seq <= most && seq%4 == 0)
				}
			}
			for _, d := range someDigests() {
				one(vote(0, most, d), stable.Seq < most)
			}
			for _, d := range wrongDigests() {
				one(vote(0, most, d), false)
			}
			for _, k := range wrongKeys(c.brokers) {
				one(vote(k, most, 9), false)
			}
			for _, d := range someSigned() {
				one(api.Vote{Seq: most, Digest: 9, Sign: api.Sign{Key: 1, Digest: d}}, stable.Seq < most)
			}
			one(api.Vote{}, false)
		}
	}
}

// P14.4: votes by Keys, then Seq, then Digest, each once, of one broker at most MaxVotes.
func TestFromVotesOrder(t *testing.T) {
	for _, c := range clusters() {
		votes := func(try func(*testing.T, cluster, api.Points), l ...api.Vote) {
			t.Helper()
			try(t, c, api.Points{Votes: l})
		}
		l := []api.Vote{vote(0, 4, 5), vote(0, 4, 6), vote(0, 8, 1), vote(1, 4, 1), vote(1, 12, 1), vote(2, 4, 1), vote(c.brokers-1, 8, 2), vote(c.brokers-1, 8, 3)}
		votes(okay, l...)
		for i := range l {
			votes(okay, slices.Delete(slices.Clone(l), i, i+1)...)
			for j := range i {
				x := slices.Clone(l)
				x[i], x[j] = x[j], x[i]
				votes(wrong, x...)
				votes(wrong, slices.Insert(slices.Clone(l), i, l[j])...)
				votes(wrong, slices.Insert(slices.Clone(l), j, l[i])...)
			}
			again := l[i]
			again.Sign.Digest++
			votes(wrong, slices.Insert(slices.Clone(l), i, again)...)
			votes(wrong, slices.Insert(slices.Clone(l), i+1, again)...)
		}
		votes(okay, vote(1, 4, 1), vote(1, 4, 2), vote(1, 4, 3), vote(1, 4, 4))
		votes(wrong, vote(1, 4, 1), vote(1, 4, 2), vote(1, 4, 3), vote(1, 4, 4), vote(1, 4, 5))
		votes(wrong, vote(1, 4, 1), vote(1, 8, 1), vote(1, 12, 1), vote(1, 16, 1), vote(1, 20, 1))
		votes(wrong, vote(0, 4, 1), vote(1, 4, 1), vote(1, 8, 1), vote(1, 12, 1), vote(1, 16, 1), vote(1, 20, 1), vote(2, 4, 1))
		var all []api.Vote
		for k := range c.brokers {
			all = append(all, vote(k, 4, 1), vote(k, 4, 2), vote(k, 8, 1), vote(k, 12, 1))
		}
		votes(okay, all...)
		votes(wrong, append(all, vote(c.brokers-1, 12, 2))...)
		votes(wrong, append(all, vote(c.brokers, 12, 2))...)
	}
}

// P14.4: certificates that are known have to be such as may be here, and above the stable one.
func TestFromCerts(t *testing.T) {
	for _, c := range clusters() {
		for _, x := range c.rightCerts() {
			okay(t, c, api.Points{Certs: []api.Cert{x}})
		}
		for _, x := range append(c.wrongCerts(), api.Cert{}) {
			wrong(t, c, api.Points{Certs: []api.Cert{x}})
			wrong(t, c, api.Points{Certs: []api.Cert{x, c.enough(most, 1)}})
			wrong(t, c, api.Points{Certs: []api.Cert{c.enough(4, 1), x}})
			wrong(t, c, api.Points{Stable: c.enough(4, 9), Certs: []api.Cert{x}})
		}
		for _, stable := range someSeqs() {
			for _, seq := range append(someSeqs(), stable-4, stable, stable+4) {
				try := wrong
				if seq > stable && seq <= most {
					try = okay
				}
				try(t, c, api.Points{Stable: c.enough(stable, 9), Certs: []api.Cert{c.enough(seq, 9)}})
			}
		}
	}
}

// P14.4: certificates by Seq, of each Seq and Digest one, of one Seq in whichever order they were known.
func TestFromCertsOrder(t *testing.T) {
	for _, c := range clusters() {
		certs := func(try func(*testing.T, cluster, api.Points), l ...api.Cert) {
			t.Helper()
			try(t, c, api.Points{Certs: l})
		}
		other := cert(8, 5, upTo(c.brokers)[1:]...)
		for _, some := range arrangements([]int{1, 2, 3, 4}) {
			l := []api.Cert{c.enough(4, 5)}
			for _, d := range some {
				l = append(l, c.enough(8, api.Digest(d)))
			}
			certs(okay, append(l, c.enough(12, 5))...)
			certs(wrong, append(l, c.enough(12, 5), c.enough(8, 5))...)
			certs(wrong, append(l, c.enough(12, 5), c.enough(8, 1))...)
			certs(wrong, append(l, c.enough(4, 6))...)
			for i := range l {
				certs(wrong, append(slices.Clone(l), l[i])...)
				certs(wrong, slices.Insert(slices.Clone(l), i, l[i])...)
			}
		}
		certs(okay, c.enough(4, 5), other, c.enough(12, 5))
		certs(wrong, c.enough(4, 5), c.enough(8, 5), other)
		certs(wrong, c.enough(8, 5), c.enough(8, 6), other)
		certs(okay, c.enough(8, 6), other)
		certs(wrong, c.enough(12, 5), c.enough(8, 5))
	}
}

// changed is plain points with a change or two, most of which no points have.
func changed(dice *rand.Rand, c cluster, p api.Points) api.Points {
	p = copyPlain(p)
	for range 1 + dice.Intn(2) {
		switch dice.Intn(3) {
		case 0:
			p.Votes = changedVotes(dice, c, p)
		case 1:
			p.Certs = changedCerts(dice, c, p)
		default:
			p.Stable = changedCert(dice, c, p.Stable)
		}
	}
	return p
}

func changedVotes(dice *rand.Rand, c cluster, p api.Points) []api.Vote {
	l := p.Votes
	v := anyVote(dice, &model{c: c, stable: p.Stable})
	i, j := dice.Intn(len(l)+1), dice.Intn(len(l)+1)
	if i == len(l) || j == len(l) || dice.Intn(4) == 0 {
		return slices.Insert(l, i, v)
	}
	switch dice.Intn(6) {
	case 0:
		l[i], l[j] = l[j], l[i]
	case 1:
		return slices.Insert(l, j, l[i])
	case 2:
		l[i].Seq += 4 * (dice.Int63n(5) - 2)
	case 3:
		l[i].Digest += api.Digest(dice.Intn(5) - 2)
	case 4:
		l[i].Sign.Key += dice.Intn(3) - 1
	default:
		return slices.Delete(l, i, i+1)
	}
	return l
}

func changedCerts(dice *rand.Rand, c cluster, p api.Points) []api.Cert {
	l := p.Certs
	i, j := dice.Intn(len(l)+1), dice.Intn(len(l)+1)
	if i == len(l) || j == len(l) || dice.Intn(4) == 0 {
		return slices.Insert(l, i, anyCert(dice, &model{c: c, stable: p.Stable}))
	}
	switch dice.Intn(4) {
	case 0:
		l[i], l[j] = l[j], l[i]
	case 1:
		return slices.Insert(l, j, copyCert(l[i]))
	case 2:
		return slices.Delete(l, i, i+1)
	default:
		l[i] = changedCert(dice, c, l[i])
	}
	return l
}

func changedCert(dice *rand.Rand, c cluster, x api.Cert) api.Cert {
	switch i := dice.Intn(len(x.Signs) + 1); dice.Intn(6) {
	case 0:
		x.Seq += 4 * (dice.Int63n(5) - 2)
	case 1:
		x.Seq++
	case 2:
		x.Digest += api.Digest(dice.Intn(5) - 2)
	case 3:
		x.Signs = slices.Insert(x.Signs, i, sign(dice.Intn(c.brokers+3)-1))
	case 4:
		x.Signs = slices.Delete(x.Signs, min(i, max(0, len(x.Signs)-1)), len(x.Signs))
	default:
		if i < len(x.Signs) {
			x.Signs[i].Key += dice.Intn(3) - 1
		}
	}
	return x
}

// P14.4: From takes just what points may have, of many near such ones.
func TestFromChanged(t *testing.T) {
	taken, refused := 0, 0
	for _, c := range clusters() {
		for seed := range int64(40) {
			dice := rand.New(rand.NewSource(seed))
			b := beginBoth(t, c)
			for range 20 + dice.Intn(20*c.brokers) {
				b.tell(anyStep(dice, b.m))
			}
			for range 40 {
				p := changed(dice, c, b.p.Plain())
				if fromIs(t, c, p) != nil {
					taken++
				} else {
					refused++
				}
			}
		}
	}
	if taken < 500 || refused < 500 {
		t.Errorf("%d taken, %d refused", taken, refused)
	}
}

// THE BOUND: what is long beyond what may be is refused, and what may be long is gone through once or so.
func TestFromLong(t *testing.T) {
	const long = 1 << 18
	c := clusters()[0]
	begin := time.Now()
	rising, alike := make([]api.Cert, long), make([]api.Cert, long)
	for i := range long {
		rising[i] = c.enough(4*int64(i+1), 9)
		alike[i] = c.enough(4, api.Digest(long-i))
	}
	for _, l := range [][]api.Cert{rising, alike} {
		p, e := point.From(1, api.Points{Certs: l})
		if e != 0 || len(p.Plain().Certs) != long || len(p.Clone().Plain().Certs) != long {
			t.Fatal(e)
		}
		if _, e := point.From(1, api.Points{Certs: append(slices.Clone(l), l[7])}); e != 1 {
			t.Error(e)
		}
		if p.Know(l[long-1]) {
			t.Error("known twice")
		}
		if x, is := p.At(l[long-1].Seq); !is || x.Seq != l[long-1].Seq {
			t.Error(x, is)
		}
		if e := p.Settle(c.enough(4*long-4, 9)); e != 0 {
			t.Error(e)
		}
	}
	votes := make([]api.Vote, long)
	for i := range votes {
		votes[i] = vote(0, 4*int64(i+1), 9)
	}
	if _, e := point.From(1, api.Points{Votes: votes}); e != 1 {
		t.Error(e)
	}
	signed := api.Cert{Seq: 4, Digest: 9, Signs: make([]api.Sign, long)}
	for i := range signed.Signs {
		signed.Signs[i].Key = i
	}
	if _, e := point.From(4, api.Points{Stable: signed}); e != 1 {
		t.Error(e)
	}
	if took := time.Since(begin); took > 15*time.Second {
		t.Errorf("it took %v", took)
	}
}
