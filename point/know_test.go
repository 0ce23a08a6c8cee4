package point_test

import (
	"math"
	"testing"

	"bulla/api"
	"bulla/point"
)

// P14.3: Know and Settle of each certificate that may be here.
func TestKnowSettle(t *testing.T) {
	for _, c := range clusters() {
		for _, x := range c.rightCerts() {
			b := beginBoth(t, c)
			if _, is := b.p.At(x.Seq); is {
				t.Fatalf("f %d: %+v is known already", c.f, x)
			}
			if !b.know(x) {
				t.Fatalf("f %d: %+v is not known", c.f, x)
			}
			b.same()
			if y, is := b.p.At(x.Seq); !is || !sameCert(x, y) {
				t.Errorf("f %d: At = %+v, %v, want %+v", c.f, y, is, x)
			}
			if y, is := b.p.Best(); !is || !sameCert(x, y) {
				t.Errorf("f %d: Best = %+v, %v, want %+v", c.f, y, is, x)
			}
			if b.know(x) {
				t.Errorf("f %d: %+v is known twice", c.f, x)
			}
			b.same()
			for range 2 {
				e := b.settle(x)
				b.same()
				if y := b.p.Stable(); !sameCert(x, y) {
					t.Errorf("f %d: Settle(%+v) = %d, Stable() = %+v", c.f, x, e, y)
				}
				if y, is := b.p.At(x.Seq); !is || !sameCert(x, y) {
					t.Errorf("f %d: At = %+v, %v, want the stable one", c.f, y, is)
				}
				if y, is := b.p.Best(); is || !isZero(y) {
					t.Errorf("f %d: the stable one is still known: %+v, %v", c.f, y, is)
				}
			}
			if b.settle(x) != 1 || b.know(x) {
				t.Errorf("f %d: %+v is known, or settled, twice", c.f, x)
			}
		}
	}
}

// P14.3: Know and Settle of what may not be here, R2: nothing happens.
func TestKnowSettleWrong(t *testing.T) {
	for _, c := range clusters() {
		empty, b := beginBoth(t, c), many(t, c)
		for _, x := range append(c.wrongCerts(), api.Cert{}, api.Cert{Signs: []api.Sign{}}) {
			for _, b := range []both{empty, b} {
				if b.know(x) {
					t.Errorf("f %d: %+v is known", c.f, x)
				}
				if e := b.settle(x); e != 1 {
					t.Errorf("f %d: Settle(%+v) = %d", c.f, x, e)
				}
			}
		}
		empty.same()
		b.same()
		if b.know(c.enough(8, 7)) || b.settle(c.enough(8, 7)) != 1 || b.know(c.enough(4, 7)) || b.settle(c.enough(4, 7)) != 1 {
			t.Errorf("f %d: below the stable one", c.f)
		}
		b.same()
	}
}

// many is points with a stable certificate of 8, votes and certificates above it, several of them for one number.
func many(t *testing.T, c cluster) both {
	t.Helper()
	b := beginBoth(t, c)
	b.settle(c.enough(8, 9))
	b.know(cert(24, 6, upTo(c.brokers)...))
	b.know(cert(12, 5, upTo(c.brokers)...))
	for k := range c.brokers {
		d := api.Digest(1 + k%2)
		b.vote(vote(k, 16, 3))
		b.vote(vote(k, 16, 2))
		b.vote(vote(k, 24, 7))
		b.vote(vote(k, 28, d))
	}
	b.know(cert(20, 4, upTo(c.brokers)[1:]...))
	b.same()
	if l := b.p.Plain(); len(l.Certs) != 6 || len(l.Votes) != 4*c.brokers {
		t.Fatalf("f %d: %+v", c.f, l)
	}
	return b
}

// P14.3: Know takes what is above the stable one and of which Seq nothing is known, neither by Vote nor by Know.
func TestKnowOnce(t *testing.T) {
	for _, c := range clusters() {
		b := many(t, c)
		for seq := int64(-4); seq <= 36; seq++ {
			for _, d := range []api.Digest{1, 2, 3, 4, 5, 6, 7, 9} {
				want := d == 1 && (seq == 28 || seq == 32 || seq == 36)
				if is := b.know(c.enough(seq, d)); is != want {
					t.Errorf("f %d: Know of %d, %d: %v", c.f, seq, d, is)
				}
				b.same()
			}
		}
		for k := range c.brokers {
			if how := b.vote(vote(k, 32, 2)); (how == "told") != (k == c.big-1) { // unlike what is known
				t.Errorf("f %d: the vote of %d: %s", c.f, k, how)
			}
			if how := b.vote(vote(k, 32, 1)); how == "told" {
				t.Errorf("f %d: the vote of %d tells what is known", c.f, k)
			}
			b.same()
		}
	}
}

// P14.3: what of its Seq and below goes behind Settle, and what stays, also where its certificate was not known, or another one of its Seq was.
func TestSettleGoes(t *testing.T) {
	for _, c := range clusters() {
		for seq := int64(12); seq <= 36; seq += 4 {
			for d := api.Digest(1); d <= 8; d++ {
				b := many(t, c)
				x := cert(seq, d, upTo(c.brokers)[c.brokers-c.big:]...)
				if e := b.settle(x); e != 0 {
					t.Fatalf("f %d: Settle(%+v) = %d", c.f, x, e)
				}
				b.same()
				p := b.p.Plain()
				for _, v := range p.Votes {
					if v.Seq <= seq {
						t.Errorf("f %d: behind Settle of %d a vote for %d is kept", c.f, seq, v.Seq)
					}
				}
				for _, y := range p.Certs {
					if y.Seq <= seq {
						t.Errorf("f %d: behind Settle of %d one of %d is known", c.f, seq, y.Seq)
					}
				}
				certs := map[int64]int{12: 5, 16: 3, 20: 2}[seq]
				votes := map[int64]int{12: 4, 16: 2, 20: 2, 24: 1}[seq] * c.brokers
				if len(p.Certs) != certs || len(p.Votes) != votes {
					t.Errorf("f %d: behind Settle of %d: %d certificates, %d votes", c.f, seq, len(p.Certs), len(p.Votes))
				}
				best, is := b.p.Best()
				if is != (seq < 24) || is && (best.Seq != 24 || best.Digest != 6) {
					t.Errorf("f %d: behind Settle of %d: Best() = %+v, %v", c.f, seq, best, is)
				}
				for below := int64(-4); below < seq; below++ {
					if y, is := b.p.At(below); is || !isZero(y) {
						t.Errorf("f %d: behind Settle of %d: At(%d) = %+v, %v", c.f, seq, below, y, is)
					}
				}
				if y, is := b.p.At(seq); !is || !sameCert(x, y) || !sameCert(x, b.p.Stable()) {
					t.Errorf("f %d: Settle(%+v): At = %+v, %v", c.f, x, y, is)
				}
			}
		}
	}
}

// P14.3: room that Settle makes is there for votes again.
func TestSettleMakesRoom(t *testing.T) {
	for _, c := range clusters() {
		b := many(t, c)
		if how := b.vote(vote(0, 12, 1)); how != "low" {
			t.Fatalf("f %d: %s", c.f, how)
		}
		b.settle(c.enough(16, 3))
		for i, want := range []string{"kept", "kept", "low", "low"} {
			if how := b.vote(vote(0, 20, api.Digest(1+i))); how != want {
				t.Errorf("f %d: the vote %d: %s, want %s", c.f, i, how, want)
			}
			b.same()
		}
	}
}

// P14.3: Best tells the greatest Seq's, of several the one that was known first, by Vote or by Know.
func TestBest(t *testing.T) {
	for _, c := range clusters() {
		b := beginBoth(t, c)
		best := func(seq int64, d api.Digest) {
			t.Helper()
			b.same()
			if x, is := b.p.Best(); x.Seq != seq || x.Digest != d || is != (seq > 0) {
				t.Errorf("f %d: Best() = %+v, %v, want %d, %d", c.f, x, is, seq, d)
			}
		}
		all := func(seq int64, d api.Digest) {
			for k := range c.big {
				b.vote(vote(k, seq, d))
			}
		}
		best(0, 0)
		all(12, 5)
		best(12, 5)
		all(12, 9)
		best(12, 5)
		all(12, 1)
		best(12, 5)
		b.know(c.enough(4, 9))
		best(12, 5)
		b.know(c.enough(16, 2))
		best(16, 2)
		all(16, 1)
		best(16, 2)
		b.know(c.enough(most, 7))
		best(most, 7)
		b.settle(c.enough(8, 9))
		best(most, 7)
		b.settle(c.enough(most-4, 9))
		best(most, 7)
		b.settle(c.enough(most, 8))
		best(0, 0)
		b.know(c.enough(most, 8))
		best(0, 0)
	}
}

// P14.3: At of a Seq that is known, is stable, and is neither.
func TestAt(t *testing.T) {
	for _, c := range clusters() {
		b := beginBoth(t, c)
		if x, is := b.p.At(0); !is || !isZero(x) {
			t.Errorf("f %d: At(0) = %+v, %v, want the zero certificate, which is stable", c.f, x, is)
		}
		for _, seq := range append(append(wrongSeqs(), someSeqs()...), math.MinInt64, math.MaxInt64) {
			if x, is := b.p.At(seq); is || !isZero(x) {
				t.Errorf("f %d: At(%d) = %+v, %v", c.f, seq, x, is)
			}
		}
		b = many(t, c)
		want := map[int64]api.Digest{8: 9, 12: 5, 16: 3, 20: 4, 24: 6}
		for seq := int64(-8); seq <= 40; seq++ {
			x, is := b.p.At(seq)
			if d := want[seq]; x.Digest != d || is != (d > 0) || is && x.Seq != seq || !is && !isZero(x) {
				t.Errorf("f %d: At(%d) = %+v, %v, want %d", c.f, seq, x, is, d)
			}
		}
	}
}

// R5: points that no call made.
func TestUnmade(t *testing.T) {
	c := clusters()[0]
	for _, p := range []*point.Points{nil, {}} {
		for range 2 { // nothing of it makes them
			for k := range 4 {
				if x, told := p.Vote(vote(k, 4, 9)); told || !isZero(x) {
					t.Errorf("Vote = %+v, %v", x, told)
				}
			}
			if p.Know(c.enough(4, 9)) || p.Know(api.Cert{}) {
				t.Error("Know")
			}
			if e := p.Settle(c.enough(4, 9)); e != 2 {
				t.Errorf("Settle = %d", e)
			}
			if e := p.Settle(api.Cert{}); e != 2 { // ahead of ErrArg
				t.Errorf("Settle = %d", e)
			}
			if x := p.Stable(); !isZero(x) {
				t.Errorf("Stable = %+v", x)
			}
			if x, is := p.Best(); is || !isZero(x) {
				t.Errorf("Best = %+v, %v", x, is)
			}
			for _, seq := range []int64{0, 4, -4, most} {
				if x, is := p.At(seq); is || !isZero(x) {
					t.Errorf("At(%d) = %+v, %v", seq, x, is)
				}
			}
			if l := p.Plain(); !isZero(l.Stable) || l.Votes != nil || l.Certs != nil {
				t.Errorf("Plain = %+v", l)
			}
			if q := p.Clone(); q != nil {
				t.Errorf("Clone = %v", q)
			}
		}
	}
}

// P14.3: a clone is the same, and goes its own way, in both directions.
func TestClone(t *testing.T) {
	for _, c := range clusters() {
		b := many(t, c)
		d := b.clone()
		d.same()
		for _, x := range [][2]both{{b, d}, {d, b}} {
			x[0].vote(vote(0, 32, 1))
			x[1].same()
			x[0].know(c.enough(36, 1))
			x[1].same()
			x[0].settle(c.enough(12, 5))
			x[1].same()
			for k := range c.big {
				x[0].vote(vote(k, 40, 1))
				x[1].same()
			}
			x[0].same()
		}
		b.settle(c.enough(28, 1))
		d.same()
		d.settle(c.enough(20, 1))
		b.same()
		d.same()
	}
}
