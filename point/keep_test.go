package point_test

import (
	"slices"
	"testing"

	"bulla/api"
	"bulla/point"
)

// scribble writes to all that the owner of signatures can reach.
func scribble(l []api.Sign) {
	l = l[:cap(l)]
	for i := range l {
		l[i] = api.Sign{Key: 66, Digest: 666}
	}
}

func scribblePlain(p api.Points) {
	scribble(p.Stable.Signs)
	votes, certs := p.Votes[:cap(p.Votes)], p.Certs[:cap(p.Certs)]
	for i := range votes {
		votes[i] = api.Vote{Seq: 666, Digest: 666, Sign: api.Sign{Key: 66}}
	}
	for i := range certs {
		scribble(certs[i].Signs)
		certs[i] = api.Cert{Seq: 666}
	}
}

// roomy is a certificate whose list has room behind it.
func roomy(c api.Cert) api.Cert {
	c.Signs = append(make([]api.Sign, 0, len(c.Signs)+5), c.Signs...)
	return c
}

// R3: certificates that are handed in are not written to, nor kept in a way that their owner could change.
func TestCertsKeptOff(t *testing.T) {
	for _, c := range clusters() {
		b := beginBoth(t, c)
		know, settle := roomy(c.enough(12, 9)), roomy(c.enough(4, 9))
		b.know(know)
		b.settle(settle)
		if !sameCert(know, c.enough(12, 9)) || !sameCert(settle, c.enough(4, 9)) || slices.ContainsFunc(know.Signs[c.big:c.big+5], func(s api.Sign) bool { return s != api.Sign{} }) {
			t.Fatalf("f %d: what was handed in is written to", c.f)
		}
		scribble(know.Signs)
		scribble(settle.Signs)
		b.same()
		refused := roomy(c.enough(4, 9))
		b.know(refused)
		b.settle(refused)
		scribble(refused.Signs)
		b.same()
		b.settle(c.enough(8, 9))
		b.same()
	}
}

// R3: nothing that is told is kept, nor shared with what else is told.
func TestAnswersWrittenTo(t *testing.T) {
	for _, c := range clusters() {
		b := many(t, c)
		answers := func() []api.Cert {
			l := []api.Cert{b.p.Stable()}
			for seq := int64(4); seq <= 36; seq += 4 {
				x, _ := b.p.At(seq)
				l = append(l, x)
			}
			x, _ := b.p.Best()
			return append(l, x)
		}
		for range 2 {
			first, again := answers(), answers()
			want := copyPlain(api.Points{Certs: again}).Certs
			for i, x := range first {
				scribble(x.Signs)
				if !slices.EqualFunc(again, want, sameCert) {
					t.Fatalf("f %d: the answer %d shares memory with others", c.f, i)
				}
				b.same()
			}
			for _, x := range again {
				scribble(x.Signs)
			}
			b.same()
		}
	}
}

// R3: what Vote tells is nobody else's.
func TestToldWrittenTo(t *testing.T) {
	for _, c := range clusters() {
		b := beginBoth(t, c)
		for seq := int64(4); seq <= 12; seq += 4 {
			for k := range c.brokers {
				b.m.vote(vote(k, seq, 9))
				if x, told := b.p.Vote(vote(k, seq, 9)); told {
					scribble(x.Signs)
				}
				b.same()
			}
		}
		if x, is := b.p.Best(); !is || !sameCert(x, c.enough(12, 9)) {
			t.Errorf("f %d: Best() = %+v, %v", c.f, x, is)
		}
	}
}

// R3: what is written to Plain is not seen, and no two lists of it share memory.
func TestPlainWrittenTo(t *testing.T) {
	for _, c := range clusters() {
		b := many(t, c)
		other := b.p.Plain()
		want := copyPlain(other)
		scribblePlain(b.p.Plain())
		b.same()
		if !samePlain(other, want) {
			t.Fatalf("f %d: two answers share memory", c.f)
		}
		scribble(other.Stable.Signs)
		for i := range other.Certs {
			scribble(other.Certs[i].Signs)
			for j := i + 1; j < len(other.Certs); j++ {
				if !sameCert(other.Certs[j], want.Certs[j]) {
					t.Fatalf("f %d: the certificates %d and %d share memory", c.f, i, j)
				}
			}
		}
		scribblePlain(other)
		b.same()
		b.know(c.enough(32, 1)) // what comes later has no way into what was told
		b.vote(vote(0, 32, 1))
		b.settle(c.enough(12, 5))
		b.same()
	}
}

// R3: what was handed to From is not written to, nor kept, also where its lists share memory.
func TestFromKeptOff(t *testing.T) {
	for _, c := range clusters() {
		shared := append(make([]api.Sign, 0, 20), signs(upTo(c.big)...)...)
		own := func() api.Points {
			p := api.Points{Stable: api.Cert{Seq: 4, Digest: 9, Signs: shared}, Votes: make([]api.Vote, 0, 9), Certs: make([]api.Cert, 0, 9)}
			p.Votes = append(p.Votes, vote(0, 8, 1), vote(1, 8, 1))
			for seq := int64(8); seq <= 20; seq += 4 {
				p.Certs = append(p.Certs, api.Cert{Seq: seq, Digest: 9, Signs: shared})
			}
			return p
		}
		p := own()
		b, early := both{t, fromIs(t, c, p), modelOf(c, p)}, both{t, fromIs(t, c, p), modelOf(c, p)}
		b.vote(vote(2, 8, 1))
		b.know(c.enough(24, 9))
		b.settle(c.enough(8, 9))
		b.same()
		if !samePlain(p, own()) || p.Votes[:3][2] != (api.Vote{}) || p.Certs[:5][4].Signs != nil || shared[:c.big+1][c.big] != (api.Sign{}) {
			t.Fatalf("f %d: what was handed in is written to", c.f)
		}
		scribblePlain(p)
		early.same() // the stable certificate among it
		b.same()
		b.know(c.enough(28, 9))
		b.vote(vote(0, 28, 1))
		b.same()
	}
}

// R3: what points tell is not their clone's, nor the clone's theirs.
func TestClonesApart(t *testing.T) {
	for _, c := range clusters() {
		b := many(t, c)
		d := b.clone()
		all := []both{b, d, {t, fromIs(t, c, b.p.Plain()), b.m.clone()}}
		for _, x := range all {
			scribblePlain(x.p.Plain())
			for _, seq := range []int64{8, 12, 16, 24} {
				y, _ := x.p.At(seq)
				scribble(y.Signs)
			}
			for _, y := range all {
				y.same()
			}
		}
		for i, x := range all { // whoever goes ahead, votes and certificates stay the own ones
			x.know(cert(32, api.Digest(1+i), upTo(c.big)...))
			for k := range c.big {
				x.vote(vote(k, 36, api.Digest(1+i)))
				x.vote(vote(k, 16, api.Digest(10+i)))
			}
			for _, y := range all {
				y.same()
			}
		}
		for i, x := range all {
			x.settle(cert(16, api.Digest(1+i), upTo(c.big)...))
			for _, y := range all {
				y.same()
			}
		}
	}
}

// R3, R5: calls of what no call made change nothing of it, nor of what is handed in.
func TestUnmadeKeptOff(t *testing.T) {
	c := clusters()[0]
	p := &point.Points{}
	x := roomy(c.enough(4, 9))
	p.Know(x)
	p.Settle(x)
	p.Vote(vote(0, 4, 9))
	if !sameCert(x, c.enough(4, 9)) || p.Clone() != nil || p.Know(x) {
		t.Error("points that no call made are changed")
	}
}
