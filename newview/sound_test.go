package newview_test

import (
	"math/rand"
	"slices"
	"testing"

	"bulla/api"
	"bulla/newview"
)

// told is what a test of P16.6 is about: a batch that was prepared at a number, with a View.
type told struct {
	view, seq int64
	batch     api.Batch
}

// holds tells whether P16.6 speaks of it, by what these view-changes tell: enough that are not faulty tell it, none of these another batch with the same View or a greater one, and no faulty one a greater View.
func (x told) holds(c cluster, faulty []int, l []api.Change) bool {
	tellers := map[int]bool{}
	for _, y := range l {
		bad := slices.Contains(faulty, y.From)
		for _, p := range y.Above {
			switch {
			case p.Seq != x.seq:
			case bad && p.View > x.view:
				return false
			case !bad && p.View >= x.view && !same(p.Batch, x.batch):
				return false
			case !bad && p.View == x.view:
				tellers[y.From] = true
			}
		}
	}
	return len(tellers) >= c.small
}

// stays tells whether Select of these goes on with it, or above it.
func (x told) stays(t *testing.T, c cluster, view int64, l []api.Change) bool {
	t.Helper()
	cert, entries, e := newview.Select(c.f, view, l...)
	if e != api.OK {
		t.Fatalf("Select(%d, %d, %+v): %d", c.f, view, l, e)
	}
	if cert.Seq >= x.seq {
		return true
	}
	at := int(x.seq - cert.Seq - 1)
	return at < len(entries) && entries[at].Seq == x.seq && same(entries[at].Batch, x.batch)
}

// some are so many of the numbers from 0 on, by chance, rising.
func some(dice *rand.Rand, of, many int) []int {
	l := dice.Perm(of)[:many]
	slices.Sort(l)
	return l
}

// P16.6: brokers that tell the batch, as few as must be, each in a window of its own; the other ones tell less, and the faulty ones what they like that P16.6 speaks of, checkpoints among it.
func TestCommittedStays(t *testing.T) {
	for _, c := range clusters() {
		above, below := 0, 0
		dice := rand.New(rand.NewSource(int64(c.f)))
		for range 120 {
			faulty := some(dice, c.brokers, dice.Intn(c.f+1))
			x := told{1 + dice.Int63n(3), 5 + dice.Int63n(4), mark(50)}
			var good []int
			for k := range c.brokers {
				if !slices.Contains(faulty, k) {
					good = append(good, k)
				}
			}
			tellers := dice.Perm(len(good))[:c.small]
			var l []api.Change
			for k := range c.brokers {
				y := api.Change{From: k, Cert: api.Cert{Seq: 4 * dice.Int63n(2)}}
				bad := slices.Contains(faulty, k)
				for range dice.Intn(4) {
					p := tell(dice.Int63n(x.view+1), x.seq+dice.Int63n(5)-2, dice.Intn(40))
					if p.Seq == x.seq && p.View == x.view { // of one View there is one batch
						p.Batch = x.batch
					}
					if p.Seq != x.seq { // of other numbers anything
						p.View += dice.Int63n(5)
					}
					y.Above = append(y.Above, p)
				}
				if slices.Contains(tellers, slices.Index(good, k)) {
					y.Above = append(y.Above, api.Prepared{View: x.view, Seq: x.seq, Batch: x.batch})
				}
				if bad && dice.Intn(2) == 0 {
					y.Cert.Seq = dice.Int63n(24) - 8
				}
				l = append(l, y)
			}
			if !x.holds(c, faulty, l) {
				t.Fatalf("P16.6 does not speak of %+v", l)
			}
			for _, some := range choices(l, c.big) {
				if !x.stays(t, c, x.view+1, some) {
					t.Fatalf("f %d, %v are faulty: %+v is lost by %+v", c.f, faulty, x, some)
				}
				if chosen(c.f, x.view+1, some).Cert.Seq >= x.seq {
					above++
				} else {
					below++
				}
			}
		}
		enough(t, "checkpoints above", above, 20)
		enough(t, "entries", below, 200)
	}
}

// P16.6: whichever so many tell it, nobody loses it; where one fewer tell it, some quorum has it no more.
func TestCommittedEachWay(t *testing.T) {
	for _, c := range clusters() {
		x := told{1, 6, mark(50)}
		for many := range c.small + 1 {
			for n, tellers := range choices(upTo(c.brokers), many) {
				if n%(1+c.f*c.f*c.f/3) > 0 { // some of them are enough
					continue
				}
				l := says(lows(c.brokers, 4)...)
				for k := range l {
					l[k].Above = []api.Prepared{tell(0, 6, k)}
				}
				for _, k := range tellers {
					l[k].Above = []api.Prepared{{View: 1, Seq: 6, Batch: x.batch}}
				}
				lost := 0
				for _, some := range choices(l, c.big) {
					if !x.stays(t, c, 2, some) {
						lost++
					}
				}
				if lost > 0 != (many < c.small) {
					t.Fatalf("f %d: %v tell it: %d quorums lose it", c.f, tellers, lost)
				}
			}
		}
	}
}

// P16.6: one condition alone is not met: somebody who is not faulty tells another batch with the same View ahead or a greater one, or a faulty one a greater View: then some quorum may lose it.
func TestCommittedConditions(t *testing.T) {
	for _, c := range clusters() {
		x := told{1, 6, mark(50)}
		for i, other := range []api.Prepared{tell(1, 6, 1), tell(2, 6, 1)} {
			l := says(lows(c.brokers, 4)...)
			for k := 1; k <= c.small; k++ {
				l[k].Above = []api.Prepared{{View: 1, Seq: 6, Batch: x.batch}}
			}
			l[0].Above = []api.Prepared{other}
			lost := 0
			for _, some := range choices(l, c.big) {
				if !x.stays(t, c, 3, some) {
					lost++
				}
			}
			if lost == 0 || x.holds(c, nil, l) || i > 0 && x.holds(c, []int{0}, l) {
				t.Errorf("f %d: %+v beside it: %d quorums lose it", c.f, other, lost)
			}
		}
	}
}

// history is what brokers have signed in some views, each at most one batch for one view and number, but for the faulty ones, which sign all.
type history struct {
	h      house
	c      cluster
	faulty []int
	ready  []api.Prepared // what can be shown of that
}

// newHistory has of each view and number up to a few what brokers come to that agree more or less.
func newHistory(dice *rand.Rand, c cluster, views, seqs int64) history {
	x := history{newHouse(), c, some(dice, c.brokers, dice.Intn(c.f+1)), nil}
	batches := []api.Batch{nil, x.h.batch(1), x.h.batch(2)}
	for view := range views {
		for seq := int64(1); seq <= seqs; seq++ {
			first := dice.Intn(3)
			split := dice.Intn(c.brokers + 1)
			signers := make([][]int, 3)
			for at, k := range dice.Perm(c.brokers) {
				which := first
				if at < split && k != c.primary(view) && dice.Intn(2) == 0 {
					which = (first + 1) % 3
				}
				for n := range 3 {
					if n == which || slices.Contains(x.faulty, k) {
						signers[n] = append(signers[n], k)
					}
				}
			}
			for n, keys := range signers {
				if slices.Contains(keys, c.primary(view)) && len(keys) > 2*c.f {
					x.ready = append(x.ready, x.show(dice, view, seq, batches[n], keys))
				}
			}
		}
	}
	return x
}

// show is a certificate of the view's primary and 2f others of these.
func (x history) show(dice *rand.Rand, view, seq int64, b api.Batch, keys []int) api.Prepared {
	keys = slices.DeleteFunc(slices.Clone(keys), func(k int) bool { return k == x.c.primary(view) })
	p := api.Prepared{View: view, Seq: seq, Digest: x.h.learn(b), Batch: b}
	p.First = x.h.sign(x.c.primary(view), 2, view, seq, p.Digest)
	for _, i := range some(dice, len(keys), 2*x.c.f) {
		slices.Sort(keys)
		p.Signs = append(p.Signs, x.h.sign(keys[i], 3, view, seq, p.Digest))
	}
	return p
}

// changes are view-changes of all brokers, that tell for each number one of what can be shown, or nothing, above some checkpoint.
func (x history) changes(dice *rand.Rand, view int64) []api.Change {
	var l []api.Change
	late := dice.Intn(3) == 0
	for k := range x.c.brokers {
		y := api.Change{View: view, From: k}
		if late && dice.Intn(3) == 0 {
			y.Cert = x.h.at(x.c, 4)
		}
		for seq := y.Cert.Seq + 1; seq <= 6; seq++ {
			var may []api.Prepared
			for _, p := range x.ready {
				if p.Seq == seq {
					may = append(may, p)
				}
			}
			if n := len(may); n > 0 && dice.Intn(8) > 0 {
				at := n - 1 - dice.Intn(n)*dice.Intn(2)*dice.Intn(2) // mostly the last one
				y.Above = append(y.Above, may[at])
			}
		}
		l = append(l, x.h.signed(y))
	}
	return l
}

// P16.6, P16.5: real certificates, of up to f faulty brokers that sign all that there is: what P16.6 speaks of stays, whichever quorum the next primary takes, and all take what it makes.
func TestCommittedStaysShown(t *testing.T) {
	for _, c := range clusters() {
		spoken, beside := 0, 0
		dice := rand.New(rand.NewSource(int64(c.f)))
		for range 60 {
			const view = 4
			x := newHistory(dice, c, view, 6)
			l := x.changes(dice, view)
			for _, y := range l {
				x.h.valid(t, true, c.f, view, y)
			}
			quorums := choices(l, c.big)
			for _, p := range x.ready {
				y := told{p.View, p.Seq, p.Batch}
				if !y.holds(c, x.faulty, l) {
					beside++
					continue
				}
				spoken++
				for i, some := range quorums {
					if (i+spoken)%(c.f*c.f) == 0 && !y.stays(t, c, view, some) {
						t.Fatalf("f %d, %v are faulty: %+v is lost by %+v", c.f, x.faulty, y, some)
					}
				}
			}
			for range 2 {
				x.h.makes(t, c, view, quorums[dice.Intn(len(quorums))]...)
			}
		}
		enough(t, "batches of which P16.6 speaks", spoken, 60)
		enough(t, "others", beside, 60)
	}
}

// P16.6: where one more is faulty than may be, two batches of one View can be shown, and one is lost.
func TestCommittedLost(t *testing.T) {
	for _, c := range clusters() {
		h := newHouse()
		a, b := h.ready(c, 0, 1, h.batch(1)), h.ready(c, 0, 1, h.batch(2)) // here all have signed both
		l := h.plain(1, upTo(c.brokers)...)
		for k := range l {
			if k < c.f {
				l[k] = h.change(1, k, api.Cert{}, b)
			} else if k < c.f+c.small {
				l[k] = h.change(1, k, api.Cert{}, a)
			}
		}
		x := told{0, 1, a.Batch}
		lost := 0
		for _, some := range choices(l, c.big) {
			if !x.stays(t, c, 1, some) {
				lost++
			}
		}
		if lost == 0 || !x.holds(c, upTo(c.f), l) || x.holds(c, nil, l) {
			t.Errorf("f %d: %d quorums lose it", c.f, lost)
		}
	}
}

// P16.5, P16.6, P16.7: view behind view, each of which goes on with what the one ahead of it came to, by whichever quorum: what so many have prepared stays for ever.
func TestViewsOnViews(t *testing.T) {
	for _, c := range clusters() {
		kept := 0
		for seed := range int64(12) {
			dice := rand.New(rand.NewSource(seed))
			h := newHouse()
			batches := []api.Batch{nil, h.batch(1), h.batch(2), h.batch(3)}
			has := make([]map[int64]api.Prepared, c.brokers)
			for k := range has {
				has[k] = map[int64]api.Prepared{}
			}
			fixed := map[int64]api.Batch{}
			goes := []api.Entry{} // what the view goes on with
			for view := range int64(6) {
				for seq := int64(len(goes)) + 1; seq <= 5; seq++ {
					goes = append(goes, api.Entry{Seq: seq, Batch: batches[dice.Intn(4)]})
				}
				for _, x := range goes[:dice.Intn(6)] {
					p := h.ready(c, view, x.Seq, x.Batch)
					tellers := dice.Perm(c.brokers)[:dice.Intn(c.brokers+1)]
					for _, k := range tellers {
						has[k][x.Seq] = p
					}
					if b, is := fixed[x.Seq]; is && !same(b, x.Batch) {
						t.Fatalf("f %d, view %d: %d is another batch", c.f, view, x.Seq)
					}
					if len(tellers) >= c.big { // of these f may be faulty
						fixed[x.Seq] = x.Batch
						kept++
					}
				}
				var l []api.Change
				for _, k := range some(dice, c.brokers, c.big) {
					var above []api.Prepared
					for seq := range int64(6) {
						if p, is := has[k][seq]; is && (dice.Intn(9) > 0 || k >= c.f) { // the first ones hide something
							above = append(above, p)
						}
					}
					l = append(l, h.change(view+1, k, api.Cert{}, above...))
				}
				m := h.makes(t, c, view+1, l...)
				_, entries, is := newview.Check(h.x, h.l, c.f, m)
				if !is {
					t.Fatalf("f %d, view %d: %+v", c.f, view+1, m)
				}
				noGaps(t, api.Cert{}, entries)
				goes = entries
				for seq, b := range fixed {
					if int(seq) > len(goes) || !same(goes[seq-1].Batch, b) {
						t.Fatalf("f %d, view %d: %d is lost", c.f, view+1, seq)
					}
				}
			}
		}
		enough(t, "batches that stay", kept, 10)
	}
}
