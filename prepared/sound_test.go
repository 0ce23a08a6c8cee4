package prepared_test

import (
	"math/rand"
	"slices"
	"testing"

	"bulla/api"
	"bulla/prepared"
)

// vote is what a broker has signed for the one view and number of a test: of which kind, for which of two batches.
type vote struct{ key, kind, which int }

// trial is what brokers have signed for one view and number, of two batches.
type trial struct {
	h         house
	c         cluster
	view, seq int64
	batches   []api.Batch
}

func newTrial(c cluster, view, seq int64, votes []vote) trial {
	h := newHouse()
	x := trial{h, c, view, seq, []api.Batch{nil, h.batch(1)}}
	for which := range x.batches {
		h.learn(x.batches[which])
		h.x.Sum(x.bytes(vote{0, 2, which})) // all that could be said is known to the table, but nobody has signed it
		h.x.Sum(x.bytes(vote{0, 3, which}))
	}
	for _, v := range votes {
		h.l.Sign(v.key, x.sign(v).Digest)
	}
	return x
}

// bytes are what is signed, written by hand: no number here is above 127.
func (x trial) bytes(v vote) []byte {
	return []byte{4, byte(v.kind), byte(x.view), byte(x.seq), byte(x.h.learn(x.batches[v.which]))}
}

// sign is a broker's signature, whether it has signed it or not.
func (x trial) sign(v vote) api.Sign {
	return api.Sign{Key: v.key, Digest: x.h.x.Sum(x.bytes(v))}
}

// claim is a certificate for one of the batches, with these signatures.
func (x trial) claim(which, first int, keys ...int) api.Prepared {
	p := api.Prepared{View: x.view, Seq: x.seq, Digest: x.h.learn(x.batches[which]), Batch: x.batches[which], First: x.sign(vote{first, 2, which})}
	for _, k := range keys {
		p.Signs = append(p.Signs, x.sign(vote{k, 3, which}))
	}
	return p
}

func (x trial) takes(p api.Prepared) bool {
	return prepared.Valid(x.h.x, x.h.l, x.c.f, p)
}

// lists are all lists of at most so many numbers below n.
func lists(n, most int) [][]int {
	all := [][]int{nil}
	for at := 0; at < len(all); at++ {
		if len(all[at]) == most {
			break
		}
		for i := range n {
			all = append(all, append(slices.Clone(all[at]), i))
		}
	}
	return all
}

// everything is what a faulty broker signs.
func everything(key int) []vote {
	return []vote{{key, 2, 0}, {key, 2, 1}, {key, 3, 0}, {key, 3, 1}}
}

// P15.4, for f 1: each way in which the three others vote for none or one, of whichever kind, whoever is faulty and whoever leads; and whatever certificates can be put together of that.
func TestOneBatchEachWay(t *testing.T) {
	backups := lists(4, 3)
	once := 0
	for n := range 4 * 5 * 5 * 5 * 2 {
		faulty, ways, view := n%4, n/4%125, n/500
		votes := everything(faulty)
		for k := range 4 {
			if k != faulty {
				if ways%5 > 0 {
					votes = append(votes, everything(k)[ways%5-1])
				}
				ways /= 5
			}
		}
		x := newTrial(clusters()[0], int64(view), 3, votes)
		var taken [2]int
		for which := range taken {
			for first := range 4 {
				for _, keys := range backups {
					if x.takes(x.claim(which, first, keys...)) {
						taken[which]++
					}
				}
			}
		}
		if taken[0] > 0 && taken[1] > 0 {
			t.Fatalf("view %d, %d is faulty, and there are %+v: certificates of two digests", view, faulty, votes)
		}
		once += min(1, taken[0]+taken[1])
	}
	enough(t, "certificates of one digest", once, 50)
}

// anyVotes are those of so many faulty brokers, and of each other one at most one for this view and number.
func anyVotes(dice *rand.Rand, c cluster, view int64, faulty []int) []vote {
	var l []vote
	part := dice.Intn(c.brokers + 1)
	for at, k := range dice.Perm(c.brokers) {
		if slices.Contains(faulty, k) {
			l = append(l, everything(k)...)
			continue
		}
		v := vote{k, 3, min(1, at/max(1, part))}
		if k == c.primary(view) {
			v.kind = 2
		}
		if dice.Intn(30) == 0 {
			v.kind = 5 - v.kind
		}
		if dice.Intn(20) > 0 {
			l = append(l, v)
		}
	}
	return l
}

// best are certificates that have most chances: those of all who have signed, from both ends, and some of these in which others' signatures stand.
func (x trial) best(dice *rand.Rand, which int, votes []vote) []api.Prepared {
	var backups, leaders []int
	for k := range x.c.brokers {
		if slices.Contains(votes, vote{k, 3, which}) {
			backups = append(backups, k)
		}
		if slices.Contains(votes, vote{k, 2, which}) {
			leaders = append(leaders, k)
		}
	}
	leads := x.c.primary(x.view)
	others := slices.DeleteFunc(slices.Clone(backups), func(k int) bool { return k == leads })
	n, m := min(x.c.backups, len(backups)), min(x.c.backups, len(others))
	l := []api.Prepared{
		x.claim(which, leads, others[:m]...), x.claim(which, leads, others[len(others)-m:]...), x.claim(which, leads, backups[:n]...), x.claim(which, leads, others...),
	}
	for _, k := range leaders {
		l = append(l, x.claim(which, k, others[:m]...), x.claim(which, k, backups[:n]...))
	}
	for range 6 {
		p := copyOf(l[0])
		for i := range p.Signs {
			if dice.Intn(3) == 0 {
				v := votes[dice.Intn(len(votes))]
				p.Signs[i] = x.sign(v)
			}
		}
		l = append(l, p)
	}
	return l
}

// P15.4: if at most f brokers are faulty, certificates for one view and number have one digest, whatever else the others have signed; with one more faulty one, they need not.
func TestOneBatch(t *testing.T) {
	for _, c := range clusters() {
		for many := range c.f + 2 {
			dice := rand.New(rand.NewSource(int64(100*c.f + many)))
			one, two := 0, 0
			for range 1500 {
				view := dice.Int63n(20)
				faulty := dice.Perm(c.brokers)[:many]
				if many > 0 && dice.Intn(2) == 0 {
					faulty[0] = c.primary(view)
				}
				votes := anyVotes(dice, c, view, faulty)
				if len(votes) == 0 {
					continue
				}
				x := newTrial(c, view, 3, votes)
				for k := range c.brokers { // other votes of theirs, which say nothing here
					for which := range x.batches {
						d := x.h.learn(x.batches[which])
						x.h.sign(k, 2+dice.Intn(2), view, 4, d)
						x.h.sign(k, 2+dice.Intn(2), view+1, 3, d)
						x.h.sign(k, 4, view, 3, d)
					}
				}
				var taken [2]bool
				for which := range taken {
					for _, p := range x.best(dice, which, votes) {
						taken[which] = taken[which] || x.takes(p)
					}
				}
				if taken[0] || taken[1] {
					one++
				}
				if taken[0] && taken[1] {
					two++
				}
			}
			if one < 100 || many <= c.f && two > 0 || many > c.f && two == 0 {
				t.Errorf("f %d, %d faulty: %d times certificates, %d times with two digests", c.f, many, one, two)
			}
		}
	}
}

// greatest is the greatest View that was put for a number behind the last Slide past it.
func greatest(l []step, seq int64) (int64, bool) {
	view, is := int64(0), false
	for _, x := range l {
		switch {
		case x.slides && x.low >= seq:
			view, is = 0, false
		case !x.slides && x.p.Seq == seq && (!is || x.p.View > view):
			view, is = x.p.View, true
		}
	}
	return view, is
}

// latest tells where something else is kept than the greatest View.
func latest(t *testing.T, h *prepared.Held, l []step) {
	t.Helper()
	for seq := int64(1); seq <= 4; seq++ {
		view, want := greatest(l, seq)
		if p, is := h.Get(seq); is != want || p.View != view || is && p.Seq != seq {
			t.Fatalf("behind %+v: Get(%d) = %+v, %v, want the view %d, %v", l, seq, p, is, view, want)
		}
	}
}

// P15.5: the greatest View stays, in each order of some calls.
func TestLatestStays(t *testing.T) {
	put := func(view, seq int64) step { return step{p: api.Prepared{View: view, Seq: seq}} }
	for _, steps := range [][]step{
		{put(0, 1), put(1, 1), put(7, 1), put(1, 2), put(5, 2), {slides: true, low: 1}, {slides: true, low: 2}},
		{put(-3, 2), put(0, 2), put(0, 3), put(4, 2), put(2, 3), {slides: true, low: 2}, {slides: true, low: 0}},
	} {
		for _, l := range arrangements(steps) {
			h := prepared.New()
			for i, x := range l {
				if x.slides {
					h.Slide(x.low)
				} else {
					h.Put(x.p)
				}
				latest(t, h, l[:i+1])
			}
		}
	}
}

// P15.5: also where many come.
func TestLatestStaysAny(t *testing.T) {
	for seed := range int64(40) {
		dice := rand.New(rand.NewSource(seed))
		b := beginBoth(t)
		var l []step
		for range 200 {
			x := step{p: some(dice.Int63n(40), 1+dice.Int63n(4), dice.Intn(99))}
			if dice.Intn(12) == 0 {
				x = step{slides: true, low: dice.Int63n(5)}
			}
			l = append(l, x)
			b.tell(x)
			if dice.Intn(20) == 0 {
				b.h = from(t, true, slices.Collect(b.h.All())...).h
			}
			latest(t, b.h, l)
		}
	}
}
