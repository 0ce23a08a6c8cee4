package window_test

import (
	"math"
	"math/rand"
	"slices"
	"testing"

	"bulla/api"
	"bulla/window"
)

// P13.1: New of each f and low that may be.
func TestNew(t *testing.T) {
	for _, c := range clusters() {
		for _, low := range someLows() {
			w := start(t, c.f, low)
			if w.Low() != low {
				t.Errorf("f %d: Low() = %d, want %d", c.f, w.Low(), low)
			}
			if l := all(w); len(l) > 0 {
				t.Errorf("f %d, low %d: All tells %v", c.f, low, l)
			}
		}
	}
}

// P13.1: New of what may not be, quorum's error first.
func TestNewWrong(t *testing.T) {
	wrong := func(f int, low int64, want api.Errno) {
		t.Helper()
		if w, e := window.New(f, low); w != nil || e != want {
			t.Errorf("New(%d, %d) = %v, %d, want %d", f, low, w, e, want)
		}
	}
	for _, f := range wrongFaults() {
		for _, low := range append(wrongLows(), someLows()...) {
			wrong(f, low, 120)
		}
	}
	for _, c := range clusters() {
		for _, low := range wrongLows() {
			wrong(c.f, low, 1)
		}
	}
}

// P13.1: the numbers from low + 1 to low + Window are in it, as far as they are at most MaxNum.
func TestIn(t *testing.T) {
	for _, c := range clusters() {
		for _, low := range someLows() {
			w := start(t, c.f, low)
			in, out := near(low)
			for _, seq := range in {
				if !w.In(seq) {
					t.Errorf("low %d: %d is not in", low, seq)
				}
			}
			for _, seq := range out {
				if w.In(seq) {
					t.Errorf("low %d: %d is in", low, seq)
				}
			}
		}
	}
	for _, x := range []struct {
		low  int64
		many int
	}{{0, 8}, {4, 8}, {1<<53 - 9, 8}, {1<<53 - 8, 8}, {1<<53 - 7, 7}, {1<<53 - 1, 1}, {1 << 53, 0}} {
		if in, _ := near(x.low); len(in) != x.many {
			t.Errorf("low %d: the test tries %d numbers, want %d", x.low, len(in), x.many)
		}
	}
}

// P13.1 to P13.4: each call takes the numbers that are in the window, and no other one.
func TestEachCallAsksForNumber(t *testing.T) {
	for _, c := range clusters() {
		for _, low := range someLows() {
			in, out := near(low)
			for _, seq := range in {
				known(t, c, low, seq)
			}
			for _, seq := range out {
				unknown(t, c, low, seq)
			}
		}
	}
}

func known(t *testing.T, c cluster, low, seq int64) {
	t.Helper()
	w := start(t, c.f, low)
	e := w.Accept(seq, 9, sign(1), someBatches()[4])
	for k := range c.brokers {
		e += w.Prepare(seq, 9, sign(k)) + w.Commit(seq, 9, sign(k))
	}
	if e != 0 || !w.Prepared(seq) || !w.Committed(seq) {
		t.Errorf("f %d, low %d: %d is not Committed", c.f, low, seq)
	}
	want := api.Slot{Seq: seq, Has: true, Digest: 9, First: sign(1), Batch: someBatches()[4], Prepares: votes(9, upTo(c.brokers)...), Commits: votes(9, upTo(c.brokers)...)}
	if s, is := w.Get(seq); !is || !sameSlot(s, want) {
		t.Errorf("f %d, low %d: Get(%d) = %+v, %v", c.f, low, seq, s, is)
	}
	if p, is := w.Proof(2, seq); !is || p.Seq != seq {
		t.Errorf("f %d, low %d: Proof(2, %d) = %+v, %v", c.f, low, seq, p, is)
	}
	if l := all(w); !sameSlots(l, []api.Slot{want}) {
		t.Errorf("f %d, low %d: All tells %+v", c.f, low, l)
	}
}

func unknown(t *testing.T, c cluster, low, seq int64) {
	t.Helper()
	w := start(t, c.f, low)
	for range 2 {
		if a, p, m := w.Accept(seq, 9, sign(1), nil), w.Prepare(seq, 9, sign(1)), w.Commit(seq, 9, sign(1)); a != 1 || p != 1 || m != 1 {
			t.Errorf("f %d, low %d: Accept, Prepare, Commit of %d: %d, %d, %d", c.f, low, seq, a, p, m)
		}
	}
	if s, is := w.Get(seq); is || !sameSlot(s, api.Slot{}) || w.Prepared(seq) || w.Committed(seq) || len(all(w)) > 0 {
		t.Errorf("f %d, low %d: something is known of %d: %+v", c.f, low, seq, s)
	}
	if p, is := w.Proof(2, seq); is || !sameProof(p, api.Prepared{}) {
		t.Errorf("f %d, low %d: Proof(2, %d) = %+v, %v", c.f, low, seq, p, is)
	}
}

// full is a window in which something else is known of each number.
func full(t *testing.T, c cluster, low int64) both {
	t.Helper()
	b := beginBoth(t, c, low)
	in, _ := near(low)
	for i, seq := range in {
		d := api.Digest(i + 1)
		if i%3 != 2 {
			b.accept(seq, d, sign(i), someBatches()[i%len(someBatches())])
		}
		for k := range c.brokers {
			if i%3 == 0 || k%3 == 1 {
				b.prepare(seq, d, sign(k))
			}
			if i%2 == 0 && k%4 != 3 {
				b.commit(seq, d, sign(k))
			}
		}
	}
	return b
}

// P13.1: Slide lets go what is known up to low, and nothing of the numbers that stay.
func TestSlide(t *testing.T) {
	for _, c := range clusters() {
		for _, low := range []int64{0, 4, 100, 1<<53 - 9, 1<<53 - 8, 1<<53 - 3} {
			for _, to := range []int64{low, low + 1, low + 2, low + 3, low + 4, low + 7, low + 8, low + 9, low + 16, 1<<53 - 1, 1 << 53} {
				if to > 1<<53 {
					continue
				}
				b := full(t, c, low)
				before := all(b.w)
				if e := b.slide(to); e != 0 {
					t.Fatalf("low %d: Slide(%d) = %d", low, to, e)
				}
				b.same()
				stays := slices.DeleteFunc(before, func(s api.Slot) bool { return s.Seq <= to })
				if l := all(b.w); !sameSlots(l, stays) || b.w.Low() != to {
					t.Errorf("low %d: behind Slide(%d) Low is %d, All tells %+v", low, to, b.w.Low(), l)
				}
			}
		}
	}
}

// P13.1, R2: Slide to what may not be changes nothing.
func TestSlideWrong(t *testing.T) {
	for _, low := range []int64{1, 4, 100, 1<<53 - 8, 1<<53 - 3, 1 << 53} {
		b := full(t, clusters()[1], low)
		for _, to := range []int64{low - 1, low - 8, low - 9, 0, -1, -2, math.MinInt64, math.MinInt64 + 1} {
			if to < low {
				if e := b.slide(to); e != 7 {
					t.Errorf("low %d: Slide(%d) = %d, want ErrPast", low, to, e)
				}
				b.same()
			}
		}
		for _, to := range []int64{1<<53 + 1, 1<<53 + 2, 1<<53 + 8, 1 << 62, math.MaxInt64, math.MaxInt64 - 1, math.MaxInt64 - 8} {
			if e := b.slide(to); e != 1 {
				t.Errorf("low %d: Slide(%d) = %d, want ErrArg", low, to, e)
			}
			b.same()
		}
	}
}

// P13.1: what comes into the window by Slide is not known, also where it has been slid step by step; what is out of it is not taken again.
func TestSlideOn(t *testing.T) {
	for _, c := range clusters() {
		b := full(t, c, 0)
		for low := int64(1); low <= 30; low++ {
			b.slide(low)
			b.same()
			if _, is := b.w.Get(low + 8); is {
				t.Fatalf("%d is known when it comes into the window", low+8)
			}
			b.accept(low, 3, sign(0), nil)
			b.prepare(low, 3, sign(1))
			b.commit(low, 3, sign(1))
			b.accept(low+8, 3, sign(0), nil)
			b.prepare(low+8, 3, sign(int(low)%c.brokers))
			b.same()
		}
		b.slide(1 << 53)
		b.same()
		b.slide(1 << 53)
		b.same()
		if e := b.slide(1<<53 - 1); e != 7 {
			t.Errorf("Slide back from MaxNum = %d", e)
		}
	}
}

// P13.1: behind Clear nothing is known, Low stays, and what came may come once more, or something else.
func TestClear(t *testing.T) {
	for _, c := range clusters() {
		for _, low := range []int64{0, 4, 1<<53 - 8, 1<<53 - 3, 1 << 53} {
			b := full(t, c, low)
			for range 2 {
				b.clear()
				b.same()
				if b.w.Low() != low || len(all(b.w)) > 0 {
					t.Fatalf("low %d: behind Clear Low is %d, All tells %+v", low, b.w.Low(), all(b.w))
				}
			}
			in, _ := near(low)
			for _, seq := range in {
				e := b.accept(seq, 77, sign(2), nil)
				for k := range c.big {
					e += b.prepare(seq, 77, sign(k)) + b.commit(seq, 77, sign(k))
				}
				if e != 0 || !b.w.Committed(seq) {
					t.Fatalf("low %d: what comes behind Clear is not taken", low)
				}
			}
			b.same()
			b.clear()
			b.same()
			b.slide(1 << 53)
			b.same()
		}
	}
}

// P13.4: nothing is known of a number until something was taken, and whatever is taken makes it known.
func TestGet(t *testing.T) {
	for i := range 8 { // which of the three has come
		w := start(t, 1, 0)
		want := api.Slot{Seq: 3}
		if i&1 > 0 {
			w.Accept(3, 5, sign(9), someBatches()[5])
			want.Has, want.Digest, want.First, want.Batch = true, 5, sign(9), someBatches()[5]
		}
		if i&2 > 0 {
			w.Prepare(3, 6, sign(2))
			want.Prepares = votes(6, 2)
		}
		if i&4 > 0 {
			w.Commit(3, 7, sign(3))
			want.Commits = votes(7, 3)
		}
		if i == 0 {
			want = api.Slot{}
		}
		for range 2 {
			if s, is := w.Get(3); is != (i > 0) || !sameSlot(s, want) {
				t.Errorf("%d: Get(3) = %+v, %v", i, s, is)
			}
			if l := all(w); len(l) != min(i, 1) || i > 0 && !sameSlot(l[0], want) {
				t.Errorf("%d: All tells %+v", i, l)
			}
		}
		for _, seq := range []int64{0, 1, 2, 4, 8, 9} {
			if s, is := w.Get(seq); is || !sameSlot(s, api.Slot{}) {
				t.Errorf("%d: Get(%d) = %+v, %v", i, seq, s, is)
			}
		}
	}
}

// P13.4, R2: a call that answers an error makes nothing known.
func TestErrorsMakeNothingKnown(t *testing.T) {
	w := start(t, 1, 0)
	for _, d := range wrongDigests() {
		w.Accept(3, d, sign(0), nil)
		w.Prepare(3, d, sign(1))
		w.Commit(3, d, sign(1))
	}
	for _, x := range wrongBatches() {
		w.Accept(3, 5, sign(0), x.b)
	}
	for _, k := range wrongKeys(4) {
		w.Prepare(3, 5, sign(k))
		w.Commit(3, 5, sign(k))
	}
	if s, is := w.Get(3); is || !sameSlot(s, api.Slot{}) || len(all(w)) > 0 {
		t.Errorf("Get(3) = %+v, %v", s, is)
	}
}

// P13.4: votes rise by Keys, whatever order they came in.
func TestVotesRise(t *testing.T) {
	for _, c := range clusters() {
		for seed := range int64(30) {
			dice := rand.New(rand.NewSource(seed))
			b := beginBoth(t, c, 0)
			prepares, commits := dice.Perm(c.brokers), dice.Perm(c.brokers)
			for i := range c.brokers {
				b.prepare(2, api.Digest(i%3+1), sign(prepares[i]))
				b.commit(2, api.Digest(i%2+1), sign(commits[i]))
			}
			b.same()
			s, _ := b.w.Get(2)
			for k := range c.brokers {
				if s.Prepares[k].Sign != sign(k) || s.Commits[k].Sign != sign(k) {
					t.Fatalf("f %d, %v, %v: Get(2) = %+v", c.f, prepares, commits, s)
				}
			}
		}
	}
}

// P13.4: All tells the slots rising, whatever order they came in, and may be stopped, and gone through again.
func TestAll(t *testing.T) {
	for _, low := range []int64{0, 4, 1<<53 - 8} {
		for _, order := range [][]int64{{1, 2, 3, 4, 5, 6, 7, 8}, {8, 7, 6, 5, 4, 3, 2, 1}, {5, 1, 8, 2}, {7}, {}} {
			w := start(t, 1, low)
			for _, i := range order {
				w.Prepare(low+i, api.Digest(i), sign(1))
			}
			rising := slices.Sorted(slices.Values(order))
			tell := w.All()
			for stop := 0; stop <= len(order)+1; stop++ {
				var l []int64
				for s := range tell {
					l = append(l, s.Seq-low)
					if len(l) == stop {
						break
					}
				}
				if stop > 0 && !slices.Equal(l, rising[:min(stop, len(rising))]) || stop == 0 && !slices.Equal(l, rising) {
					t.Errorf("low %d, %v: All tells %v, stopped at %d", low, order, l, stop)
				}
			}
		}
	}
}

// R3: All tells what was known when it was asked for.
func TestAllTellsThen(t *testing.T) {
	b := full(t, clusters()[0], 4)
	before, now := b.w.All(), copySlots(all(b.w))
	n := 0
	for s := range before {
		if n++; n == 1 {
			b.prepare(s.Seq+2, 3, sign(3))
			b.commit(s.Seq, 3, sign(3))
			b.slide(6)
		}
		if n == 2 {
			b.clear()
			b.accept(9, 9, sign(9), nil)
		}
	}
	if n != 8 || !sameSlots(slices.Collect(before), now) {
		t.Errorf("All tells %+v behind what came later, want %+v", slices.Collect(before), now)
	}
	b.same()
}

// P13.4: a clone is the same, and goes its own way; so does what it was cloned from.
func TestClone(t *testing.T) {
	for _, c := range clusters() {
		for _, low := range []int64{0, 4, 1<<53 - 3, 1 << 53} {
			a := full(t, c, low)
			x := both{t, a.w.Clone(), a.m.clone()}
			x.same()
			for _, b := range []both{x, a} {
				in, _ := near(low)
				for i, seq := range in {
					b.accept(seq, 40, sign(i), someBatches()[2])
					b.prepare(seq, 40, sign(2+i%2))
					b.commit(seq, 40, sign(3))
					b.prepare(seq, 41, sign(0))
					a.same()
					x.same()
				}
			}
			x.slide(min(low+2, 1<<53))
			a.same()
			x.same()
			y := both{t, a.w.Clone(), a.m.clone()}
			a.clear()
			a.same()
			x.same()
			y.same()
			y.slide(1 << 53)
			x.clear()
			a.same()
			x.same()
			y.same()
		}
	}
}

// R5: a window that no call made.
func TestNotMade(t *testing.T) {
	for _, w := range []*window.Window{nil, {}, new(window.Window)} {
		for range 2 {
			notMade(t, w)
		}
	}
}

func notMade(t *testing.T, w *window.Window) {
	t.Helper()
	if w.Low() != 0 || w.Clone() != nil {
		t.Errorf("Low() = %d, Clone() = %v", w.Low(), w.Clone())
	}
	for _, seq := range []int64{-1, 0, 1, 2, 8, 9, 1 << 53, 1<<53 + 1, math.MinInt64, math.MaxInt64} {
		for _, d := range []api.Digest{-1, 0, 1, 9, 1 << 53, 1<<53 + 1} {
			for _, k := range []int{-1, 0, 1, 3, 13} {
				if a, p, c := w.Accept(seq, d, sign(k), nil), w.Prepare(seq, d, sign(k)), w.Commit(seq, d, sign(k)); a != 2 || p != 2 || c != 2 {
					t.Errorf("Accept, Prepare, Commit: %d, %d, %d", a, p, c)
				}
			}
		}
		for _, x := range wrongBatches() {
			if e := w.Accept(seq, 9, sign(0), x.b); e != 2 {
				t.Errorf("Accept = %d", e)
			}
		}
		if e := w.Slide(seq); e != 2 {
			t.Errorf("Slide(%d) = %d", seq, e)
		}
		w.Clear()
		if w.In(seq) || w.Prepared(seq) || w.Committed(seq) {
			t.Errorf("In, Prepared, Committed of %d: %v, %v, %v", seq, w.In(seq), w.Prepared(seq), w.Committed(seq))
		}
		if s, is := w.Get(seq); is || !sameSlot(s, api.Slot{}) {
			t.Errorf("Get(%d) = %+v, %v", seq, s, is)
		}
		if p, is := w.Proof(3, seq); is || !sameProof(p, api.Prepared{}) {
			t.Errorf("Proof(3, %d) = %+v, %v", seq, p, is)
		}
	}
	for s := range w.All() {
		t.Errorf("All tells %+v", s)
	}
}
