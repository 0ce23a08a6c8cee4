package prepared_test

import (
	"math"
	"slices"
	"testing"
	"time"

	"bulla/api"
	"bulla/prepared"
)

// P15.3: a new one keeps nothing.
func TestNew(t *testing.T) {
	b := beginBoth(t)
	b.same()
	for range prepared.New().All() {
		t.Error("a new one tells something")
	}
	if b.put(some(0, 1, 1)); prepared.New().Len() != 0 {
		t.Error("what one keeps another one has")
	}
}

// P15.3: numbers that may be, and others.
func TestPutSeq(t *testing.T) {
	b := beginBoth(t)
	for i, seq := range wrongSeqs() {
		if how := b.put(some(5, seq, i)); how != "refused" {
			t.Errorf("Put of %d: %s", seq, how)
		}
		b.same()
	}
	for i, seq := range someSeqs() {
		if how := b.put(some(5, seq, i)); how != "new" {
			t.Errorf("Put of %d: %s", seq, how)
		}
		b.same()
	}
	for i, seq := range wrongSeqs() {
		b.put(some(6, seq, i))
		b.same()
	}
}

// P15.3: a view below, at and above the one that is kept; whether there is such a view is not asked.
func TestPutView(t *testing.T) {
	views := append(someViews(), wrongViews()...)
	for _, old := range views {
		for _, view := range views {
			b := keeping(t, some(1, 2, 9), some(old, 3, 1), some(1, 4, 9))
			if is := b.h.Put(some(view, 3, 2)); is != (view > old) {
				t.Fatalf("Put of the view %d where %d is kept: %v", view, old, is)
			}
			b.m.put(some(view, 3, 2))
			b.same()
		}
	}
}

// P15.3: a number between others, below and above them, in any order.
func TestPutOrder(t *testing.T) {
	for _, seqs := range arrangements([]int64{1, 2, 7, 9, most}) {
		b := beginBoth(t)
		for i, seq := range seqs {
			b.put(some(int64(i), seq, 10*i+int(seq%7)))
			b.same()
		}
		for i, seq := range seqs {
			b.put(some(int64(2*(i%2)), seq, 50+i))
			b.same()
		}
	}
}

// P15.3: whatever a certificate says, it is kept: whether it is valid is not asked.
func TestPutAny(t *testing.T) {
	b := beginBoth(t)
	for n := range 90 {
		b.put(some(int64(n-9), int64(n/2+1), n))
		b.same()
	}
	b.put(api.Prepared{Seq: 60})
	b.put(api.Prepared{Seq: 61, Signs: []api.Sign{}, Batch: api.Batch{}})
	b.put(api.Prepared{Seq: 62, View: math.MinInt64, Digest: math.MinInt64, First: api.Sign{Key: math.MaxInt}})
	b.put(api.Prepared{Seq: 62, View: math.MaxInt64})
	b.same()
}

// P15.3: Slide below all, to each, between any two, and past all; also twice, and back.
func TestSlide(t *testing.T) {
	seqs := []int64{2, 3, 5, 9, most - 1, most}
	lows := append(append(someSeqs(), wrongSeqs()...), 5, 6, 10)
	for _, low := range lows {
		b := beginBoth(t)
		for i, seq := range seqs {
			b.put(some(3, seq, i))
		}
		b.same()
		b.slide(low)
		b.same()
		b.slide(low)
		b.same()
		for _, again := range lows {
			c := b.clone()
			c.slide(again)
			c.same()
			for i, seq := range seqs { // behind it any may be put again: of whichever number, and of whichever view
				c.put(some(1, seq, 20+i))
				c.same()
			}
		}
	}
	b := beginBoth(t)
	for _, low := range lows {
		b.slide(low)
		b.same()
	}
	b.put(some(0, 1, 1))
	b.same()
}

// P15.3: All of none, of one and of several; left by break, and gone through again.
func TestAll(t *testing.T) {
	for many := range 12 {
		b := beginBoth(t)
		for i := range many {
			b.put(some(0, int64(i*13%many+1), i))
		}
		want, tell := b.m.all(), b.h.All()
		for stop := range many + 2 {
			var l []api.Prepared
			for p := range tell {
				if l = append(l, p); len(l) == stop {
					break
				}
			}
			if stop == 0 || stop > many {
				stop = many
			}
			if !sameAll(l, want[:stop]) {
				t.Fatalf("All left behind %d of %d tells %+v", stop, many, l)
			}
		}
		for p := range tell { // within itself
			if l := slices.Collect(tell); !sameAll(l, want) {
				t.Fatalf("All within All, at %d: %+v", p.Seq, l)
			}
		}
		b.same()
	}
}

// P15.3, R3: an iterator tells what was there when it was asked for, whatever is called between and within.
func TestAllStays(t *testing.T) {
	for _, change := range []func(b both){
		func(b both) { b.slide(4) },
		func(b both) { b.slide(most) },
		func(b both) { b.slide(0) },
		func(b both) { b.put(some(9, 3, 33)) },
		func(b both) { b.put(some(9, 5, 34)); b.put(some(9, 6, 35)) },
		func(b both) { b.put(some(9, 1, 36)); b.put(some(9, 99, 37)) },
		func(b both) { b.slide(5); b.put(some(0, 3, 38)) },
	} {
		b := beginBoth(t)
		for i, seq := range []int64{6, 2, 4, 3} {
			b.put(some(5, seq, i))
		}
		want, between, within := b.m.all(), b.clone(), b.clone()
		told := between.h.All()
		change(between)
		between.same()
		for range 2 {
			if l := slices.Collect(told); !sameAll(l, want) {
				t.Errorf("what was asked for ahead tells %+v", l)
			}
		}
		var l []api.Prepared
		told = within.h.All()
		for p := range told {
			l = append(l, p)
			change(within)
			within.same()
		}
		if !sameAll(l, want) || !sameAll(slices.Collect(told), want) {
			t.Errorf("what changes within: %+v", l)
		}
		within.same()
		b.same() // the clones' own ways are not its
	}
}

// P15.3: a clone goes its own way, in both directions, and so does its clone.
func TestClone(t *testing.T) {
	for _, many := range []int{0, 1, 5} {
		b := beginBoth(t)
		for i := range many {
			b.put(some(3, int64(i+1), i))
		}
		c := b.clone()
		d := c.clone()
		b.put(some(4, 1, 41))
		b.put(some(0, 9, 42))
		c.put(some(0, 9, 43))
		c.put(some(5, 2, 44))
		c.put(some(0, 10, 45))
		b.same()
		c.same()
		d.same()
		b.slide(3)
		b.same()
		c.same()
		d.same()
		c.slide(most)
		d.put(some(6, 4, 46))
		b.same()
		c.same()
		d.same()
	}
}

// P15.3, R5: of one that no call made.
func TestUnmade(t *testing.T) {
	var none *prepared.Held
	for _, h := range []*prepared.Held{none, {}, new(prepared.Held)} {
		for range 2 {
			for i, seq := range append(someSeqs(), wrongSeqs()...) {
				if h.Put(some(3, seq, i)) {
					t.Errorf("Put of %d", seq)
				}
				if p, is := h.Get(seq); is || !isZero(p) {
					t.Errorf("Get(%d) = %+v, %v", seq, p, is)
				}
				h.Slide(seq)
			}
			tell := h.All()
			if tell == nil {
				t.Fatal("All() is nil")
			}
			for range 2 {
				for p := range tell {
					t.Errorf("All() tells %+v", p)
				}
			}
			if h.Len() != 0 || h.Clone() != nil {
				t.Error("Len, Clone:", h.Len(), h.Clone())
			}
		}
	}
}

// THE BOUND: many are kept, and one that kept many once is no slower for that.
func TestHeldNearLinear(t *testing.T) {
	const many = 1 << 18
	begin := time.Now()
	h := prepared.New()
	for i := range int64(many) {
		h.Put(api.Prepared{Seq: many - i})
		h.Put(api.Prepared{Seq: 1 + i*i%many, View: 1})
		if _, is := h.Get(many - i); !is || h.Len() < int(i)/2 {
			t.Fatal("Get or Len")
		}
	}
	l := slices.Collect(h.Clone().All())
	if again, e := prepared.From(l...); e != api.OK || again.Len() != many || h.Len() != many {
		t.Fatal(e, h.Len())
	}
	h.Slide(many - 1)
	for i := range int64(many) {
		h.Slide(many + i - 1)
		h.Put(api.Prepared{Seq: many + i + 1})
		if h.Clone().Len() != h.Len() || h.Len() != 2 {
			t.Fatal(h.Len())
		}
		for p := range h.All() {
			if p.Seq != many+i {
				t.Fatal(p.Seq)
			}
			break
		}
	}
	if took := time.Since(begin); took > 30*time.Second {
		t.Errorf("it took %v", took)
	}
}
