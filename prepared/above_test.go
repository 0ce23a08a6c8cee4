package prepared_test

import (
	"math"
	"math/rand"
	"testing"

	"bulla/api"
	"bulla/ideal"
	"bulla/prepared"
)

// above holds Above against what it has to say, and against that it changes nothing.
func (h house) above(t *testing.T, f int, view, low int64, want bool, ps ...api.Prepared) {
	t.Helper()
	first, sums, signed := copyAll(ps), h.x.Len(), h.l.Len()
	for range 2 {
		if is := prepared.Above(h.x, h.l, f, view, low, ps...); is != want {
			t.Fatalf("Above(%d, %d, %d, %+v) = %v", f, view, low, ps, is)
		}
	}
	if !sameAll(ps, first) || h.x.Len() != sums || h.l.Len() != signed {
		t.Fatalf("Above(%d, %d, %d, %+v) has changed what it was handed", f, view, low, first)
	}
}

// P15.2: of none there is none that may not be.
func TestAboveNone(t *testing.T) {
	for _, h := range []house{newHouse(), {nil, nil}, {&ideal.Table{}, &ideal.Ledger{}}} {
		for _, f := range append(wrongFaults(), 1, 2, 3, 4) {
			for _, view := range append(someViews(), wrongViews()...) {
				for _, low := range append(someSeqs(), wrongSeqs()...) {
					h.above(t, f, view, low, true)
					h.above(t, f, view, low, true, []api.Prepared{}...)
				}
			}
		}
	}
}

// P15.2: a view below the one, above or at it.
func TestAboveView(t *testing.T) {
	for _, c := range clusters() {
		h := newHouse()
		for _, at := range someViews() {
			p := h.good(c, at, 3)
			for _, view := range append(append(someViews(), wrongViews()...), at-1, at, at+1) {
				h.above(t, c.f, view, 0, at < view, p)
				h.above(t, c.f, view, 0, at < view && view > 0, h.good(c, 0, 2), p)
				h.above(t, c.f, view, 0, at < view && view > 0, p, h.good(c, 0, 4))
			}
		}
	}
}

// P15.2: a number at low and around it, in the window and around that, near the ends of what a number can be.
func TestAboveLow(t *testing.T) {
	for _, c := range clusters() {
		h := newHouse()
		for _, seq := range someSeqs() {
			p := h.good(c, 5, seq)
			for away := int64(-20); away <= 20; away++ {
				h.above(t, c.f, 6, seq-away, away >= 1 && away <= 8, p)
			}
			for _, low := range []int64{
				math.MinInt64, math.MinInt64 + 1, math.MinInt64 + 7, math.MinInt64 + 8, math.MinInt64 + 9, math.MinInt64 + seq - 1, math.MinInt64 + seq, math.MinInt64 + seq + 8,
				math.MaxInt64, math.MaxInt64 - 1, math.MaxInt64 - 7, math.MaxInt64 - 8, math.MaxInt64 - 9, math.MaxInt64 - seq, most + 1, -most, 1 << 62, -1 << 62, seq - 1<<32,
			} {
				h.above(t, c.f, 6, low, false, p)
			}
		}
		for _, seq := range wrongSeqs() { // valid at no low
			for away := int64(-9); away <= 9; away++ {
				h.above(t, c.f, 6, seq-away, false, h.good(c, 5, seq))
			}
		}
		for low := int64(-9); low <= 0; low++ {
			for seq := int64(-1); seq <= 9; seq++ {
				h.above(t, c.f, 6, low, seq >= 1 && seq <= low+8, h.good(c, 5, seq))
			}
		}
	}
}

// window are certificates for the numbers from one above low on, of several views.
func (h house) window(c cluster, low int64) []api.Prepared {
	var l []api.Prepared
	for i := range int64(8) {
		l = append(l, h.good(c, i*i%5, low+1+i))
	}
	return l
}

// P15.2: several, in their order and in others, some of them missing.
func TestAboveOrder(t *testing.T) {
	for _, c := range clusters() {
		h := newHouse()
		l := h.window(c, 4)
		h.above(t, c.f, 6, 4, true, l...)
		for bits := range 1 << 8 {
			var some []api.Prepared
			for i, p := range l {
				if bits>>i&1 == 1 {
					some = append(some, p)
				}
			}
			h.above(t, c.f, 6, 4, true, some...)
			h.above(t, c.f, 6, 3, bits < 1<<7, some...)
			h.above(t, c.f, 6, 5, bits&1 == 0, some...)
			h.above(t, c.f, 4, 4, bits&0b10001100 == 0, some...) // these are of the view 4
		}
		for n, some := range arrangements(l[2:6]) {
			h.above(t, c.f, 6, 4, n == 0, some...)
		}
		for i := range l {
			for j := range l {
				h.above(t, c.f, 6, 4, i < j, l[i], l[j])
				h.above(t, c.f, 6, 4, false, append(append(copyAll(l[:i]), l[j]), l[i:]...)...)
			}
			later := h.good(c, 5, l[i].Seq) // twice of one number, though of another view
			h.above(t, c.f, 6, 4, false, l[i], later)
			h.above(t, c.f, 6, 4, false, later, l[i])
			h.above(t, c.f, 6, 4, false, append(append(copyAll(l[:i+1]), later), l[i+1:]...)...)
		}
	}
}

// P15.2: each has to be valid, wherever it stands.
func TestAboveEachValid(t *testing.T) {
	for _, c := range clusters() {
		h := newHouse()
		l := h.window(c, 4)
		for i := range l {
			for _, spoil := range []func(p *api.Prepared){
				func(p *api.Prepared) { p.View++ },
				func(p *api.Prepared) { p.Digest++ },
				func(p *api.Prepared) { p.First.Key++ },
				func(p *api.Prepared) { p.Signs = p.Signs[1:] },
				func(p *api.Prepared) { p.Signs[c.backups-1].Digest++ },
				func(p *api.Prepared) { p.Batch = h.batch(4) },
			} {
				x := copyAll(l)
				spoil(&x[i])
				h.above(t, c.f, 6, 4, false, x...)
				h.above(t, c.f, 6, 4, false, x[:i+1]...)
				h.above(t, c.f, 6, 4, false, x[i:]...)
				h.above(t, c.f, 6, 4, false, x[i])
				h.above(t, c.f, 6, 4, true, append(x[:i:i], x[i+1:]...)...)
			}
		}
		for _, f := range append(wrongFaults(), 1, 2, 3, 4) {
			h.above(t, f, 6, 4, f == c.f, l...)
		}
		for _, bad := range []house{{nil, h.l}, {h.x, nil}, {&ideal.Table{}, h.l}, {h.x, &ideal.Ledger{}}, newHouse()} {
			bad.above(t, c.f, 6, 4, false, l...)
		}
	}
}

// P15.2: random lists, held against the chapter's words.
func TestAboveAny(t *testing.T) {
	for _, c := range clusters() {
		yes, no := 0, 0
		dice := rand.New(rand.NewSource(int64(c.f)))
		h := newHouse()
		for range 3000 {
			low, view := dice.Int63n(12)-3, dice.Int63n(4)
			var l []api.Prepared
			seq := low
			for range dice.Intn(5) {
				seq += 1 + dice.Int63n(3)*dice.Int63n(2) - dice.Int63n(12)/11
				l = append(l, h.good(c, dice.Int63n(view+1+dice.Int63n(12)/11), seq))
				if dice.Intn(30) == 0 {
					h.change(dice, c, &l[len(l)-1])
				}
			}
			want := true
			for i, p := range l {
				want = want && h.right(c, p) && p.View < view && p.Seq > low && p.Seq <= low+8 && (i == 0 || l[i-1].Seq < p.Seq)
			}
			h.above(t, c.f, view, low, want, l...)
			if want && len(l) > 1 {
				yes++
			}
			if !want {
				no++
			}
		}
		enough(t, "Above of several", yes, 200)
		enough(t, "not Above", no, 200)
	}
}
