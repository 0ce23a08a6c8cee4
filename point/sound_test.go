package point_test

import (
	"math/rand"
	"testing"

	"bulla/api"
	"bulla/auth"
	"bulla/point"
)

// told are the digests of the certificates that votes for 4 and 8 have told, by number.
func told(p *point.Points, votes []api.Vote) map[int64][]api.Digest {
	l := map[int64][]api.Digest{}
	for _, v := range votes {
		if c, is := p.Vote(v); is {
			l[c.Seq] = append(l[c.Seq], c.Digest)
		}
	}
	return l
}

// parted tells whether there are two digests for one number.
func parted(l map[int64][]api.Digest) bool {
	return len(l[4]) > 1 || len(l[8]) > 1
}

// anyVotes are votes for 4 and 8 in any order: of those that vote for two digests both, of each other broker one at most.
func anyVotes(dice *rand.Rand, c cluster, many int) []api.Vote {
	var l []api.Vote
	for _, seq := range []int64{4, 8} {
		part := dice.Intn(c.brokers + 1)
		for k, broker := range dice.Perm(c.brokers) {
			switch {
			case k < many: // others than at the other number
				l = append(l, vote(broker, seq, 1), vote(broker, seq, 2))
			case dice.Intn(12) > 0:
				l = append(l, vote(broker, seq, api.Digest(1+max(0, min(1, k-part)))))
			}
		}
	}
	dice.Shuffle(len(l), func(i, j int) { l[i], l[j] = l[j], l[i] })
	return l
}

// P14.5: if at most f brokers vote for two digests of one number, there is a certificate of one alone; with one more, the test can fail.
func TestOneDigest(t *testing.T) {
	for _, c := range clusters() {
		for many := range c.f + 2 {
			dice := rand.New(rand.NewSource(int64(100*c.f + many)))
			one, two := 0, 0
			for range 4000 {
				l := told(start(t, c.f), anyVotes(dice, c, many))
				if len(l) > 0 {
					one++
				}
				if parted(l) {
					two++
				}
			}
			if one < 100 || many <= c.f && two > 0 || many > c.f && two == 0 {
				t.Errorf("f %d, %d vote for two: %d with certificates, %d with two digests", c.f, many, one, two)
			}
		}
	}
}

// P14.5, for f 1: each way in which each broker votes for none, one or both digests of 4, in each order of the brokers.
func TestOneDigestEachWay(t *testing.T) {
	ways := [][]api.Digest{nil, {1}, {2}, {1, 2}, {2, 1}}
	two := 0
	for n := range 5 * 5 * 5 * 5 {
		all, liars := [][]api.Digest{ways[n%5], ways[n/5%5], ways[n/25%5], ways[n/125]}, 0
		for _, l := range all {
			liars += len(l) / 2
		}
		for _, keys := range arrangements(upTo(4)) {
			var l []api.Vote
			for _, k := range keys {
				for _, d := range all[k] {
					l = append(l, vote(k, 4, d))
				}
			}
			is := parted(told(start(t, 1), l))
			if is && liars <= 1 {
				t.Fatalf("%v, in the order %v: certificates of two digests", all, keys)
			}
			if is {
				two++
			}
		}
	}
	if two == 0 {
		t.Error("none has two digests, whoever votes for two")
	}
}

// P14.6: if all votes are such as auth takes, what Vote tells is Valid, also behind From of Plain; so is what Best and At tell.
func TestToldIsValid(t *testing.T) {
	for _, c := range clusters() {
		many := 0
		for seed := range int64(20) {
			dice := rand.New(rand.NewSource(seed))
			h := newHouse()
			b := beginBoth(t, c)
			for range 80 * c.f {
				v := anyVote(dice, b.m)
				signed, e := auth.Vote(h.x, h.l, v.Sign.Key, api.MsCheckpoint, 0, v.Seq, v.Digest)
				if e != 0 {
					continue
				}
				v.Sign = signed
				x, is := b.p.Clone().Vote(v)
				b.vote(v)
				if is {
					many++
					h.valid(t, c.f, x, true)
				}
				if dice.Intn(30) == 0 {
					b.p = fromIs(t, c, b.p.Plain())
				}
				if is && dice.Intn(8) == 0 {
					b.settle(x)
				}
				x, _ = b.p.Best() // the zero one is valid, too
				h.valid(t, c.f, x, true)
				x, _ = b.p.At(v.Seq)
				h.valid(t, c.f, x, true)
				h.valid(t, c.f, b.p.Stable(), true)
			}
		}
		if many < 50 {
			t.Errorf("f %d: only %d certificates", c.f, many)
		}
	}
}

// Where one vote is such as auth does not take, what Vote tells need not be valid: it does not ask.
func TestToldNotAsked(t *testing.T) {
	for _, c := range clusters() {
		for bad := range c.big {
			h := newHouse()
			p := start(t, c.f)
			for k := range c.big {
				v := h.vote(k, 4, 9)
				if k == bad {
					v.Sign = h.sign(k, 6, 0, 8, 9)
				}
				if x, told := p.Vote(v); told != (k == c.big-1) {
					t.Fatalf("f %d: the vote of %d: %+v, %v", c.f, k, x, told)
				}
			}
			x, _ := p.Best()
			h.valid(t, c.f, x, false)
		}
	}
}

// P14.7: whatever comes, at most MaxVotes votes of each broker are kept.
func TestLittleIsKept(t *testing.T) {
	for _, c := range clusters() {
		for _, way := range []func(i int64) (int64, api.Digest){
			func(i int64) (int64, api.Digest) { return 4 * (i + 1), 9 },
			func(i int64) (int64, api.Digest) { return most - 4*i, 9 },
			func(i int64) (int64, api.Digest) { return 4, api.Digest(i + 1) },
			func(i int64) (int64, api.Digest) { return 4 * (i*i%101 + 1), api.Digest(i%7 + 1) },
			func(i int64) (int64, api.Digest) { return 4 * (i/6 + 1), api.Digest(100 - i%6) },
		} {
			p := start(t, c.f)
			for i := range int64(400) {
				for k := range c.brokers {
					seq, d := way(i + int64(k))
					p.Vote(vote(k, seq, d))
				}
				many := map[int]int{}
				for _, v := range p.Plain().Votes {
					many[v.Sign.Key]++
					if many[v.Sign.Key] > 4 {
						t.Fatalf("f %d: %d votes of %d are kept", c.f, many[v.Sign.Key], v.Sign.Key)
					}
				}
				if i > 8 && len(p.Plain().Votes) != 4*c.brokers {
					t.Fatalf("f %d: %d votes are kept", c.f, len(p.Plain().Votes))
				}
			}
		}
	}
}

// P14.7: From of Plain goes on as the points do, and so does a clone, whatever is called then.
func TestFromOfPlain(t *testing.T) {
	for _, c := range clusters() {
		for seed := range int64(25) {
			dice := rand.New(rand.NewSource(seed))
			b := beginBoth(t, c)
			for range 15 {
				again := fromIs(t, c, b.p.Plain())
				if again == nil {
					t.Fatalf("f %d: From refuses what Plain tells: %+v", c.f, b.p.Plain())
				}
				sides := []both{{t, again, modelOf(c, b.p.Plain())}, b.clone(), b}
				steps := make([]step, 6*c.brokers)
				for i := range steps {
					steps[i] = anyStep(dice, b.m)
				}
				for _, x := range steps {
					first := sides[0].tell(x)
					for _, s := range sides[1:] {
						if how := s.tell(x); how != first {
							t.Fatalf("f %d: %+v: %s, and of other ones that were the same: %s", c.f, x, how, first)
						}
					}
				}
				for _, s := range sides {
					s.same()
				}
				b = sides[dice.Intn(3)]
			}
		}
	}
}
