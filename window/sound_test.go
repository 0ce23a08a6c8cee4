package window_test

import (
	"math/rand"
	"slices"
	"testing"

	"bulla/api"
	"bulla/quorum"
	"bulla/window"
)

// honest is what brokers that are not faulty have signed at a number in a view: the digest that each prepared or, as the primary, pre-prepared (0: none).
type honest []api.Digest

// show tells a window what may come to it: the pre-prepare and prepares of those that are not faulty (some of which are lost), and of the faulty ones what they like.
func show(dice *rand.Rand, w *window.Window, f, primary int, faulty api.Set, h honest) {
	accepted := h[primary]
	if quorum.Has(faulty, primary) {
		accepted = api.Digest(1 + dice.Intn(2))
	}
	w.Accept(1, accepted, sign(primary), nil) // digest 0 is refused
	for k := range quorum.Brokers(f) {
		if k == primary { // that it does not prepare, the window's owner sees to
			continue
		}
		d := h[k]
		if quorum.Has(faulty, k) {
			d = accepted
			if dice.Intn(8) == 0 {
				d = api.Digest(1 + dice.Intn(2))
			}
		}
		if dice.Intn(10) > 0 {
			w.Prepare(1, d, sign(k))
		}
	}
}

// meet shows two windows what may come to them, and tells whether both are Prepared, and for one digest.
func meet(t *testing.T, dice *rand.Rand, f, primary int, faulty api.Set) (both, one bool) {
	t.Helper()
	h := make(honest, quorum.Brokers(f))
	part := dice.Intn(len(h) + 1)
	for k := range h {
		h[k] = 1
		if k >= part {
			h[k] = 2
		}
	}
	dice.Shuffle(len(h), func(i, j int) { h[i], h[j] = h[j], h[i] })
	a, b := start(t, f, 0), start(t, f, 0)
	show(dice, a, f, primary, faulty, h)
	show(dice, b, f, primary, faulty, h)
	p, ofA := a.Proof(0, 1)
	q, ofB := b.Proof(0, 1)
	if ofA != a.Prepared(1) || ofB != b.Prepared(1) {
		t.Fatal("a proof where it is not Prepared, or none where it is")
	}
	return ofA && ofB, p.Digest == q.Digest
}

// P13.5: with at most f faulty ones, two windows that are both Prepared have accepted one digest; with one more, the test can fail.
func TestOneBatch(t *testing.T) {
	for _, c := range clusters() {
		for many := range c.f + 2 {
			dice := rand.New(rand.NewSource(int64(100*c.f + many)))
			met, parted := 0, 0
			for range 8000 {
				faulty := quorum.Of(dice.Perm(c.brokers)[:many]...)
				is, one := meet(t, dice, c.f, dice.Intn(c.brokers), faulty)
				if is {
					met++
				}
				if is && !one {
					parted++
				}
			}
			if met < 100 || many <= c.f && parted > 0 || many > c.f && parted == 0 {
				t.Errorf("f %d, %d faulty: %d pairs Prepared, %d of them for two digests", c.f, many, met, parted)
			}
		}
	}
}

// digests is each way in which so many may stand by a digest of two, or by none.
func digests(many int) [][]api.Digest {
	l := [][]api.Digest{nil}
	for range many {
		var next [][]api.Digest
		for _, x := range l {
			for d := range api.Digest(3) {
				next = append(next, append(slices.Clone(x), d))
			}
		}
		l = next
	}
	return l
}

// P13.5, for f 1: each way in which three have signed one digest or none and one faulty broker tells two windows what it likes, whoever is the primary.
func TestOneBatchEachWay(t *testing.T) {
	met := 0
	for faulty := range 4 {
		for primary := range 4 {
			for _, h := range digests(4) { // what the faulty one is told to have signed, no window is shown
				if h[faulty] > 0 {
					continue
				}
				for _, lies := range digests(2) {
					var is [2]bool
					var of [2]api.Digest
					for i, lie := range lies {
						w := start(t, 1, 0)
						x := slices.Clone(h)
						x[faulty] = lie
						w.Accept(1, x[primary], sign(primary), nil)
						for k, d := range x {
							if k != primary {
								w.Prepare(1, d, sign(k))
							}
						}
						s, _ := w.Get(1)
						is[i], of[i] = w.Prepared(1), s.Digest
					}
					if is[0] && is[1] {
						met++
						if of[0] != of[1] {
							t.Fatalf("faulty %d, primary %d: %v, %v: Prepared for %v", faulty, primary, h, lies, of)
						}
					}
				}
			}
		}
	}
	if met < 100 {
		t.Errorf("%d pairs Prepared", met)
	}
}

// P13.6: what is Prepared, Committed stays so, with the same batch, behind whatever calls but Slide and Clear.
func TestItGrows(t *testing.T) {
	grown := 0
	for _, c := range clusters() {
		for seed := range int64(30) {
			dice := rand.New(rand.NewSource(seed))
			b := beginBoth(t, c, []int64{0, 1<<53 - 5}[seed%2])
			prepared, committed := map[int64]api.Slot{}, map[int64]api.Slot{}
			for range 100 * c.f {
				tell(b.w, anySaid(dice, b.m))
				b.w.Clone().Clear()
				b.w.Slide(b.m.low - 1 - dice.Int63n(3)) // which is refused
				for s := range b.w.All() {
					stays(t, b.w.Prepared(s.Seq), s, prepared)
					stays(t, b.w.Committed(s.Seq), s, committed)
				}
			}
			grown += len(committed)
		}
	}
	if grown < 100 {
		t.Errorf("only %d were Committed", grown)
	}
}

// stays tells where a slot was in l, and is not so any more, or is for something else.
func stays(t *testing.T, is bool, s api.Slot, l map[int64]api.Slot) {
	t.Helper()
	was, there := l[s.Seq]
	if there && (!is || was.Digest != s.Digest || was.First != s.First || !sameBatch(was.Batch, s.Batch)) {
		t.Fatalf("%+v became %+v, %v", was, s, is)
	}
	if is {
		l[s.Seq] = s
	}
}

// P13.6: behind Slide and Clear it need not stay.
func TestItGoes(t *testing.T) {
	for _, c := range clusters() {
		a := full(t, c, 0)
		b := both{t, a.w.Clone(), a.m.clone()}
		if !a.w.Committed(1) || !a.w.Prepared(4) || !b.w.Committed(1) {
			t.Fatal("the test's window is not Committed")
		}
		a.slide(0)
		if !a.w.Committed(1) {
			t.Error("Slide to Low lets go what is Committed")
		}
		a.slide(1)
		b.clear()
		if a.w.Prepared(1) || a.w.Committed(1) || !a.w.Prepared(4) || b.w.Prepared(1) || b.w.Committed(1) || b.w.Prepared(4) {
			t.Error("it stays behind Slide, Clear, or goes where it should not")
		}
	}
}

// P13.7: From of All is the window: both answer the same from then on, and so does a clone.
func TestFromOfAll(t *testing.T) {
	for _, c := range clusters() {
		for seed := range int64(25) {
			dice := rand.New(rand.NewSource(seed))
			b := beginBoth(t, c, someLows()[dice.Intn(len(someLows()))])
			for range 12 {
				l := all(b.w)
				again := fromIs(t, c, b.m.low, l)
				if again == nil {
					t.Fatalf("f %d, low %d: From refuses what All tells: %+v", c.f, b.m.low, l)
				}
				sides := []both{{t, again, b.m.clone()}, {t, b.w.Clone(), b.m.clone()}, b}
				x := make([]said, 8)
				for i := range x {
					x[i] = anySaid(dice, b.m)
				}
				low := anyLow(dice, b.m)
				for _, s := range sides {
					s.same()
					for _, y := range x {
						s.take(y)
					}
					if dice.Intn(8) == 0 && s.w != b.w {
						s.slide(low)
					}
					s.same()
				}
				b.w, b.m = again.Clone(), sides[0].m
			}
		}
	}
}
