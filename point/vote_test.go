package point_test

import (
	"math/rand"
	"slices"
	"testing"

	"bulla/api"
)

// The chapter's example.
func TestExample(t *testing.T) {
	p := start(t, 1)
	for _, k := range []int{0, 2} {
		if c, told := p.Vote(vote(k, 4, 9)); told || !isZero(c) {
			t.Fatalf("the vote of %d tells %+v, %v", k, c, told)
		}
	}
	c, told := p.Vote(vote(3, 4, 9))
	if !told || !sameCert(c, cert(4, 9, 0, 2, 3)) {
		t.Fatalf("the third one tells %+v, %v", c, told)
	}
	if e := p.Settle(c); e != 0 {
		t.Fatal(e)
	}
	if c, told := p.Vote(vote(1, 4, 9)); told || !isZero(c) || len(p.Plain().Votes) > 0 || !sameCert(p.Stable(), cert(4, 9, 0, 2, 3)) {
		t.Errorf("behind Settle a vote for 4 does something: %+v, %v, %+v", c, told, p.Plain())
	}
}

// P14.2: New of each f that may be: no votes, and the zero certificate is stable.
func TestNew(t *testing.T) {
	for _, c := range clusters() {
		b := beginBoth(t, c)
		b.same()
		if p := b.p.Plain(); !isZero(p.Stable) || len(p.Votes)+len(p.Certs) > 0 {
			t.Errorf("f %d: %+v", c.f, p)
		}
		if !isZero(b.p.Stable()) {
			t.Errorf("f %d: Stable() = %+v", c.f, b.p.Stable())
		}
	}
}

// P14.2: votes that may be are kept, those of all brokers.
func TestVoteKept(t *testing.T) {
	for _, c := range clusters() {
		for _, seq := range someSeqs() {
			for _, d := range someDigests() {
				b := beginBoth(t, c)
				for k := range c.brokers {
					v := vote(k, seq, d)
					v.Sign.Digest = someSigned()[k%len(someSigned())]
					how := b.vote(v)
					want := "kept"
					if k == c.big-1 {
						want = "told"
					} else if k >= c.big {
						want = "more"
					}
					if how != want {
						t.Fatalf("f %d: the vote %+v: %s, want %s", c.f, v, how, want)
					}
					b.same()
					if l := b.p.Plain().Votes; len(l) != k+1 || l[k] != v {
						t.Fatalf("f %d: %+v is not kept: %+v", c.f, v, l)
					}
				}
				if x, is := b.p.Best(); !is || x.Seq != seq || x.Digest != d || len(x.Signs) != c.big {
					t.Errorf("f %d: Best() = %+v, %v", c.f, x, is)
				}
			}
		}
	}
}

// P14.2: votes that may not be, R2: nothing happens.
func TestVoteWrong(t *testing.T) {
	for _, c := range clusters() {
		b := beginBoth(t, c)
		wrong := func(v api.Vote) {
			t.Helper()
			if how := b.vote(v); how != "refused" {
				t.Fatalf("f %d: the vote %+v: %s", c.f, v, how)
			}
			b.same()
		}
		all := func() {
			for _, seq := range wrongSeqs() {
				wrong(vote(0, seq, 9))
				wrong(vote(c.big-1, seq, 9))
			}
			wrong(vote(0, 0, 9))
			wrong(vote(0, 0, 0))
			for _, d := range wrongDigests() {
				wrong(vote(0, 4, d))
				wrong(vote(c.big-1, 8, d))
			}
			for _, k := range wrongKeys(c.brokers) {
				wrong(vote(k, 4, 9))
				wrong(vote(k, 8, 9))
			}
			wrong(api.Vote{})
		}
		all()
		for k := range c.big - 1 {
			b.vote(vote(k, 4, 9))
		}
		all() // none of them makes a quorum
		if how := b.vote(vote(c.brokers-1, 4, 9)); how != "told" {
			t.Errorf("f %d: the last vote: %s", c.f, how)
		}
		all()
	}
}

// P14.2: a vote's Seq has to be above the stable one's.
func TestVoteBelow(t *testing.T) {
	for _, c := range clusters() {
		for _, stable := range []int64{4, 8, 1 << 32, most - 8, most - 4, most} {
			b := beginBoth(t, c)
			if e := b.settle(c.enough(stable, 9)); e != 0 {
				t.Fatal(e)
			}
			for _, seq := range []int64{4, stable - 8, stable - 4, stable, stable + 4, stable + 8} {
				for k := range c.brokers {
					how := b.vote(vote(k, seq, 9))
					if above := seq > stable && seq <= most; above != (how == "kept" || how == "told" || how == "more") {
						t.Fatalf("f %d, stable %d: a vote for %d: %s", c.f, stable, seq, how)
					}
					b.same()
				}
			}
		}
	}
}

// P14.2: a broker has one vote for a Seq and Digest, whatever it is signed over; the first one counts.
func TestVoteTwice(t *testing.T) {
	for _, c := range clusters() {
		b := beginBoth(t, c)
		for k := range c.brokers {
			for i, s := range someSigned() {
				v := api.Vote{Seq: 4, Digest: 9, Sign: api.Sign{Key: k, Digest: s + api.Digest(k)}}
				if how := b.vote(v); (how == "twice") != (i > 0) {
					t.Fatalf("f %d: the vote %+v: %s", c.f, v, how)
				}
				b.same()
				if l := b.p.Plain().Votes; len(l) != k+1 || l[k].Sign.Digest != api.Digest(k) {
					t.Fatalf("f %d: the first vote of %d does not count: %+v", c.f, k, l)
				}
			}
		}
	}
}

// P14.2: one broker's votes for two Digests of one Seq are two; each counts for its own alone.
func TestVoteForTwo(t *testing.T) {
	for _, c := range clusters() {
		b := beginBoth(t, c)
		for k := range c.brokers {
			for d := range api.Digest(3) {
				if how := b.vote(vote(k, 4, 9-d)); (how == "told") != (k == c.big-1) {
					t.Fatalf("f %d: the vote of %d for %d: %s", c.f, k, 9-d, how)
				}
				b.same()
			}
		}
		l := b.p.Plain().Certs
		if len(l) != 3 || l[0].Digest != 9 || l[1].Digest != 8 || l[2].Digest != 7 {
			t.Errorf("f %d: known: %+v", c.f, l)
		}
		if x, is := b.p.Best(); !is || x.Digest != 9 {
			t.Errorf("f %d: Best() = %+v, %v", c.f, x, is)
		}
	}
}

// P14.2, P14.7: where MaxVotes votes are kept, the least one goes for one of a greater Seq than its own.
func TestVoteRoom(t *testing.T) {
	for _, x := range []struct {
		kept []api.Vote
		come api.Vote
		how  string
		goes int // which of those that are kept
	}{
		{[]api.Vote{vote(1, 8, 5), vote(1, 12, 5), vote(1, 16, 5), vote(1, 20, 5)}, vote(1, 4, 5), "low", -1},
		{[]api.Vote{vote(1, 8, 5), vote(1, 12, 5), vote(1, 16, 5), vote(1, 20, 5)}, vote(1, 8, 4), "low", -1},
		{[]api.Vote{vote(1, 8, 5), vote(1, 12, 5), vote(1, 16, 5), vote(1, 20, 5)}, vote(1, 8, 6), "low", -1},
		{[]api.Vote{vote(1, 8, 5), vote(1, 12, 5), vote(1, 16, 5), vote(1, 20, 5)}, vote(1, 8, 5), "twice", -1},
		{[]api.Vote{vote(1, 8, 5), vote(1, 12, 5), vote(1, 16, 5), vote(1, 20, 5)}, vote(1, 20, 5), "twice", -1},
		{[]api.Vote{vote(1, 8, 5), vote(1, 12, 5), vote(1, 16, 5), vote(1, 20, 5)}, vote(1, 12, 6), "pushed", 0},
		{[]api.Vote{vote(1, 8, 5), vote(1, 12, 5), vote(1, 16, 5), vote(1, 20, 5)}, vote(1, most, 1), "pushed", 0},
		{[]api.Vote{vote(1, 20, 5), vote(1, 16, 5), vote(1, 12, 5), vote(1, 8, 5)}, vote(1, 24, 5), "pushed", 3},
		{[]api.Vote{vote(1, 8, 5), vote(1, 8, 3), vote(1, 8, 7), vote(1, 20, 1)}, vote(1, 12, 5), "pushed", 1},
		{[]api.Vote{vote(1, 8, 5), vote(1, 20, 2), vote(1, 8, 7), vote(1, 20, 1)}, vote(1, 24, 5), "pushed", 0},
		{[]api.Vote{vote(1, 8, most), vote(1, 20, 2), vote(1, 12, 1), vote(1, 20, 1)}, vote(1, 24, 1), "pushed", 0},
		{[]api.Vote{vote(1, 8, 5), vote(1, 8, 3), vote(1, 8, 7), vote(1, 8, 4)}, vote(1, 8, 6), "low", -1},
		{[]api.Vote{vote(1, 8, 5), vote(1, 8, 3), vote(1, 8, 7), vote(1, 8, 4)}, vote(1, 12, 1), "pushed", 1},
		{[]api.Vote{vote(1, 8, 5), vote(1, 8, 3), vote(1, 8, 7)}, vote(1, 4, 1), "kept", -1},
		{[]api.Vote{vote(1, 8, 5), vote(1, 8, 3), vote(1, 8, 7), vote(1, 8, 4)}, vote(2, 4, 5), "kept", -1},
		{[]api.Vote{vote(1, 8, 5), vote(1, 8, 3), vote(2, 8, 7), vote(2, 8, 4)}, vote(1, 4, 5), "kept", -1},
	} {
		for _, c := range clusters() {
			b := beginBoth(t, c)
			for i, v := range x.kept {
				if how := b.vote(v); how != "kept" {
					t.Fatalf("%+v: %s", x.kept[:i+1], how)
				}
			}
			want := slices.Clone(x.kept)
			if x.goes >= 0 {
				want = slices.Delete(want, x.goes, x.goes+1)
			}
			if x.how == "kept" || x.how == "pushed" {
				want = append(want, x.come)
			}
			if how := b.vote(x.come); how != x.how {
				t.Fatalf("%+v, %+v: %s, want %s", x.kept, x.come, how, x.how)
			}
			b.same()
			slices.SortFunc(want, func(v, w api.Vote) int {
				if lessVote(v, w) {
					return -1
				}
				return 1
			})
			if l := b.p.Plain().Votes; !slices.Equal(l, want) {
				t.Errorf("%+v, %+v: %+v are kept", x.kept, x.come, l)
			}
		}
	}
}

// P14.2: each way in which one broker may vote, as far as three numbers and two digests go; what a vote does is tried on a clone, so that the others are not hindered.
func TestVoteEachWay(t *testing.T) {
	count := map[string]int{}
	var goOn func(b both, left int)
	goOn = func(b both, left int) {
		if left == 0 {
			b.same()
			return
		}
		for seq := int64(4); seq <= 12; seq += 4 {
			for d := api.Digest(1); d <= 2; d++ {
				next := b.clone()
				count[next.vote(vote(2, seq, d))]++
				goOn(next, left-1)
			}
		}
	}
	goOn(beginBoth(t, clusters()[0]), 5)
	for _, how := range []string{"kept", "twice", "low", "pushed"} {
		if count[how] < 50 {
			t.Errorf("%s: only %d times", how, count[how])
		}
	}
}

// P14.2: the vote that makes a quorum tells the certificate, by Keys, in whichever order they come; none ahead and none behind it does.
func TestVoteTold(t *testing.T) {
	for _, c := range clusters() {
		var orders [][]int
		if c.f == 1 {
			orders = arrangements(upTo(c.brokers))
		}
		dice := rand.New(rand.NewSource(int64(c.f)))
		for range 60 {
			orders = append(orders, dice.Perm(c.brokers))
		}
		for _, keys := range orders {
			b := beginBoth(t, c)
			for i, k := range keys {
				x, told := b.p.Vote(vote(k, 8, 9))
				b.m.vote(vote(k, 8, 9))
				by := slices.Clone(keys[:i+1])
				slices.Sort(by)
				if told != (i == c.big-1) || told && !sameCert(x, cert(8, 9, by...)) || !told && !isZero(x) {
					t.Fatalf("f %d, %v: the vote of %d tells %+v, %v", c.f, keys, k, x, told)
				}
				b.vote(vote(k, 8, 9)) // a second time it does nothing
				b.same()
			}
			if l := b.p.Plain().Certs; len(l) != 1 || len(l[0].Signs) != c.big {
				t.Fatalf("f %d, %v: known: %+v", c.f, keys, l)
			}
		}
	}
}

// P14.2: votes for other Seqs and Digests do not count, nor do they come in between.
func TestVoteApart(t *testing.T) {
	for _, c := range clusters() {
		b := beginBoth(t, c)
		for k := range c.brokers {
			for _, v := range []api.Vote{vote(k, 4, 9), vote(k, 8, 9), vote(k, 4, 8), vote((k+1)%c.brokers, 12, 9)} {
				if how := b.vote(v); (how == "told") != (k == c.big-1) {
					t.Fatalf("f %d: the vote %+v: %s", c.f, v, how)
				}
				b.same()
			}
		}
		b = beginBoth(t, c)
		for k := range c.brokers { // each for its own Seq, or its own Digest
			if b.vote(vote(k, 4*int64(k+1), 9)) != "kept" || b.vote(vote(k, 4, api.Digest(100+k))) != "kept" {
				t.Fatalf("f %d: votes that are apart count together", c.f)
			}
			b.same()
		}
	}
}

// P14.2: a vote that is gone counts no more; where it is told anew, it does.
func TestVoteGone(t *testing.T) {
	for _, c := range clusters() {
		for gone := range c.big - 1 {
			b := beginBoth(t, c)
			for k := range c.big - 1 {
				b.vote(vote(k, 4, 9))
			}
			for i := range int64(4) { // the last one of these pushes out what it said of 4
				b.vote(vote(gone, 8+4*i, 9))
			}
			b.same()
			if how := b.vote(vote(c.big-1, 4, 9)); how != "kept" {
				t.Fatalf("f %d: a vote that is gone counts: %s", c.f, how)
			}
			if how := b.vote(vote(gone, 4, 9)); how != "low" {
				t.Fatalf("f %d: a vote that is gone comes back: %s", c.f, how)
			}
			b.same()
			x, told := b.p.Vote(vote(c.brokers-1, 4, 9))
			keys := slices.Concat(upTo(gone), upTo(c.big)[gone+1:], []int{c.brokers - 1})
			if want := cert(4, 9, keys...); !told || !sameCert(x, want) {
				t.Fatalf("f %d: %+v, %v, want %+v", c.f, x, told, want)
			}
		}
	}
}

// P14.2: a certificate that is known stays so when its votes are gone, and is told no second time when they come anew.
func TestVoteGoneBehind(t *testing.T) {
	for _, c := range clusters() {
		b := beginBoth(t, c)
		for k := range c.big {
			b.vote(vote(k, 4, 9))
		}
		for i := range int64(4) {
			for k := range c.big {
				b.vote(vote(k, 8+4*i, api.Digest(100+k)))
			}
		}
		b.same()
		for k := c.big; k < c.brokers; k++ {
			if how := b.vote(vote(k, 4, 9)); how != "kept" {
				t.Fatalf("f %d: %s", c.f, how)
			}
		}
		if x, is := b.p.At(4); !is || !sameCert(x, c.enough(4, 9)) {
			t.Errorf("f %d: At(4) = %+v, %v", c.f, x, is)
		}
		b.same()
	}
}

// P14.2: a certificate that was known keeps Vote from telling it, though not one of another Digest of the same Seq.
func TestVoteKnown(t *testing.T) {
	for _, c := range clusters() {
		b := beginBoth(t, c)
		known := cert(4, 9, upTo(c.brokers)[c.brokers-c.big:]...)
		if !b.know(known) {
			t.Fatal("not known")
		}
		for k := range c.brokers {
			how := b.vote(vote(k, 4, 9))
			if how == "told" {
				t.Fatalf("f %d: what is known is told", c.f)
			}
			b.same()
		}
		if x, is := b.p.At(4); !is || !sameCert(x, known) {
			t.Errorf("f %d: At(4) = %+v, %v", c.f, x, is)
		}
		for k := range c.brokers {
			if how := b.vote(vote(k, 4, 8)); (how == "told") != (k == c.big-1) {
				t.Fatalf("f %d: the vote of %d for another Digest: %s", c.f, k, how)
			}
			b.same()
		}
		if l := b.p.Plain().Certs; len(l) != 2 || !sameCert(l[0], known) || !sameCert(l[1], c.enough(4, 8)) {
			t.Errorf("f %d: known: %+v", c.f, l)
		}
		if x, is := b.p.At(4); !is || !sameCert(x, known) { // the first one that was known
			t.Errorf("f %d: At(4) = %+v, %v", c.f, x, is)
		}
		if b.know(cert(4, 7, upTo(c.big)...)) || b.know(known) {
			t.Errorf("f %d: a third one is known", c.f)
		}
	}
}

// P14.2: where there were more votes than a quorum ahead of it (as From takes them), the certificate has all of them.
func TestVoteTellsAll(t *testing.T) {
	for _, c := range clusters() {
		for n := c.big; n < c.brokers; n++ {
			var p api.Points
			for k := range n {
				p.Votes = append(p.Votes, vote(k, 4, 9))
			}
			b := both{t, fromIs(t, c, p), modelOf(c, p)}
			b.same()
			if how := b.vote(vote(0, 4, 9)); how != "twice" {
				t.Fatalf("f %d, %d votes: %s", c.f, n, how)
			}
			full := b.clone()
			for i := range int64(4) {
				full.vote(vote(n, 8+4*i, 9))
			}
			if how := full.vote(vote(n, 4, 9)); how != "low" { // it is not kept, so it tells nothing
				t.Fatalf("f %d, %d votes: %s", c.f, n, how)
			}
			full.same()
			if how := b.vote(vote(n, 4, 9)); how != "told" {
				t.Fatalf("f %d, %d votes: %s", c.f, n, how)
			}
			if x, is := b.p.At(4); !is || !sameCert(x, cert(4, 9, upTo(n+1)...)) {
				t.Errorf("f %d, %d votes: %+v, %v", c.f, n, x, is)
			}
			b.same()
		}
	}
}
