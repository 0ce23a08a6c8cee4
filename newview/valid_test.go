package newview_test

import (
	"math"
	"math/rand"
	"slices"
	"strconv"
	"testing"

	"bulla/api"
	"bulla/ideal"
	"bulla/newview"
)

// P16.1: each broker, views at the ends of what they may be, several checkpoints, whatever stands above them.
func TestValid(t *testing.T) {
	for _, c := range clusters() {
		h := newHouse()
		for _, view := range []int64{1, 2, 3, 12, 13, 14, 1 << 32, most - 1, most} {
			for from := range c.brokers {
				for _, low := range []int64{0, 4, 8, 1 << 32, most - 8, most} {
					var above []api.Prepared
					for n := int64(1); n <= 8 && low+n <= most; n++ {
						if n%3 != int64(from)%3 {
							above = append(above, h.ready(c, view-1, low+n, h.batch(int(n)%4)))
						}
					}
					h.valid(t, true, c.f, view, h.change(view, from, h.at(c, low), above...))
					h.valid(t, true, c.f, view, h.change(view, from, h.at(c, low)))
				}
			}
			for _, x := range h.rich(c, view) {
				h.valid(t, true, c.f, view, x)
			}
		}
	}
}

// P16.1: a view that is not the one, whichever of both may be.
func TestValidView(t *testing.T) {
	for _, c := range clusters() {
		h := newHouse()
		views := append(wrongViews(), 1, 2, 3, 4, 5, most-1, most)
		for _, x := range views {
			change := h.change(x, 1, api.Cert{})
			for _, view := range append(views, x-1, x+1, x+int64(c.brokers)) {
				h.valid(t, x == view && x >= 1 && x <= most, c.f, view, change)
			}
		}
	}
}

// P16.1: brokers that there are not, also such as a greater cluster has.
func TestValidFrom(t *testing.T) {
	for _, c := range clusters() {
		h := newHouse()
		for from := -2; from <= 22; from++ {
			h.valid(t, from >= 0 && from <= c.brokers-1, c.f, 2, h.change(2, from, api.Cert{}))
			h.valid(t, from >= 0 && from <= c.brokers-1, c.f, 2, h.change(2, from, h.at(c, 4), h.ready(c, 1, 6, nil)))
		}
		for _, from := range wrongFroms(c.brokers) {
			h.valid(t, false, c.f, 2, h.change(2, from, api.Cert{}))
		}
	}
}

// P16.1: a signature by another key, for another view-change, or by nobody.
func TestValidSign(t *testing.T) {
	for _, c := range clusters() {
		h := newHouse()
		x := h.change(2, 1, h.at(c, 4), h.ready(c, 1, 6, h.batch(1)), h.ready(c, 0, 7, nil))
		h.valid(t, true, c.f, 2, x)
		with := func(s api.Sign) {
			t.Helper()
			y := x
			y.Sign = s
			h.valid(t, s == x.Sign, c.f, 2, y)
		}
		for _, y := range []api.Change{
			h.change(3, 1, x.Cert, x.Above...), h.change(2, 0, x.Cert, x.Above...), h.change(2, 1, api.Cert{}, x.Above...),
			h.change(2, 1, h.at(c, 8)), h.change(2, 1, x.Cert), h.change(2, 1, x.Cert, x.Above[:1]...), h.change(2, 1, x.Cert, x.Above[1], x.Above[0]),
		} {
			with(y.Sign)
			with(api.Sign{Key: 1, Digest: y.Sign.Digest})
		}
		for _, d := range []api.Digest{0, 1, -1, x.Sign.Digest - 1, x.Sign.Digest + 1, -x.Sign.Digest, most, most + 1, math.MinInt64, math.MaxInt64} {
			with(api.Sign{Key: 1, Digest: d})
		}
		for key := -1; key <= 22; key++ { // nobody's, and then somebody's, but not its broker's
			with(api.Sign{Key: key, Digest: x.Sign.Digest})
			h.l.Sign(key, x.Sign.Digest)
			with(api.Sign{Key: key, Digest: x.Sign.Digest})
		}
		with(api.Sign{})
		with(x.Above[0].First)
		with(h.sign(1, 7, 2, 4, x.Cert.Digest))
		with(x.Sign)

		other := newHouse() // a table that knows it, beside a ledger that does not, and the other way round
		other.x = h.x.Clone()
		other.valid(t, false, c.f, 2, x)
		house{newHouse().x, h.l}.valid(t, false, c.f, 2, x)
	}
}

// P16.1: numbers that are multiples of Interval and others, and too few signatures, or wrong ones.
func TestValidCert(t *testing.T) {
	for _, c := range clusters() {
		h := newHouse()
		h.valid(t, true, c.f, 2, h.change(2, 1, api.Cert{}))
		h.valid(t, true, c.f, 2, h.change(2, 1, api.Cert{Signs: []api.Sign{}}))
		for _, seq := range []int64{-8, -4, -1, 0, 1, 2, 3, 4, 5, 6, 7, 8, 9, 10, 11, 12, most - 4, most - 3, most - 2, most - 1, most, most + 1, most + 4, math.MinInt64, math.MaxInt64, math.MaxInt64 - 3} {
			h.valid(t, seq > 0 && seq <= most && seq%4 == 0, c.f, 2, h.change(2, 1, h.cert(seq, 9, upTo(c.big)...)))
		}
		for n := range c.brokers + 2 {
			h.valid(t, n >= c.big && n <= c.brokers, c.f, 2, h.change(2, 1, h.cert(4, 9, upTo(n)...)))
			h.valid(t, n == 0, c.f, 2, h.change(2, 1, h.cert(0, 0, upTo(n)...)))
		}
		h.valid(t, false, c.f, 2, h.change(2, 1, api.Cert{Digest: 9}))
		keys := upTo(c.big)
		slices.Reverse(keys)
		h.valid(t, false, c.f, 2, h.change(2, 1, h.cert(4, 9, keys...)))
		h.valid(t, false, c.f, 2, h.change(2, 1, h.cert(4, 9, append(upTo(c.big-1), c.big-2)...)))
		for i := range c.big {
			for _, s := range []api.Sign{
				{}, {Key: i, Digest: 1}, h.sign(i, 6, 0, 4, 8), h.sign(i, 6, 0, 8, 9), h.sign(i, 6, 2, 4, 9), h.sign(i, 4, 0, 4, 9), h.sign(20, 6, 0, 4, 9),
			} {
				x := h.cert(4, 9, upTo(c.big)...)
				x.Signs[i] = s
				h.valid(t, false, c.f, 2, h.change(2, 1, x))
			}
		}
	}
}

// P16.1: views and numbers of what was prepared, around those that may be.
func TestValidAbove(t *testing.T) {
	for _, c := range clusters() {
		h := newHouse()
		for _, low := range []int64{0, 4, most - 8} {
			cert := h.at(c, low)
			for away := int64(-4); away <= 12; away++ {
				for was := int64(-1); was <= 7; was++ {
					may := away >= 1 && away <= 8 && low+away <= most && was >= 0 && was < 5
					h.valid(t, may, c.f, 5, h.change(5, 1, cert, h.ready(c, was, low+away, h.batch(1))))
					if away > 2 && low == 4 {
						h.valid(t, may, c.f, 5, h.change(5, 1, cert, h.ready(c, 0, low+1, nil), h.ready(c, was, low+away, nil)))
						h.valid(t, false, c.f, 5, h.change(5, 1, cert, h.ready(c, was, low+away, nil), h.ready(c, 0, low+1, nil)))
					}
				}
			}
			h.valid(t, false, c.f, 5, h.change(5, 1, cert, h.ready(c, 1, low+2, nil), h.ready(c, 2, low+2, nil)))
		}
		for i := range 8 {
			for _, spoil := range []func(p *api.Prepared){
				func(p *api.Prepared) { p.View++ },
				func(p *api.Prepared) { p.Digest++ },
				func(p *api.Prepared) { p.First = p.Signs[0] },
				func(p *api.Prepared) { p.Signs = p.Signs[1:] },
				func(p *api.Prepared) { p.Signs[0].Digest++ },
				func(p *api.Prepared) { p.Batch = h.batch(4) },
				func(p *api.Prepared) { p.Seq++ },
			} {
				var above []api.Prepared
				for n := range 8 {
					above = append(above, h.ready(c, 1, int64(5+n), h.batch(n%3)))
				}
				h.valid(t, true, c.f, 5, h.change(5, 1, h.at(c, 4), above...))
				spoil(&above[i])
				h.valid(t, false, c.f, 5, h.change(5, 1, h.at(c, 4), above...))
				h.valid(t, false, c.f, 5, h.change(5, 1, h.at(c, 4), above[i]))
				h.valid(t, true, c.f, 5, h.change(5, 1, h.at(c, 4), slices.Delete(above, i, i+1)...))
			}
		}
	}
}

// P16.1: an f that may not be, or that of another cluster.
func TestValidFaults(t *testing.T) {
	for _, a := range clusters() {
		h := newHouse()
		full := h.change(2, 1, h.at(a, 4), h.ready(a, 1, 6, nil))
		empty := h.change(2, 1, api.Cert{})
		for _, f := range wrongFaults() {
			h.valid(t, false, f, 2, full)
			h.valid(t, false, f, 2, empty)
			h.valid(t, false, f, 2, api.Change{})
			h.valid(t, false, f, 2, h.change(2, -1, api.Cert{}))
		}
		for _, b := range clusters() {
			h.valid(t, a == b, b.f, 2, full)
			h.valid(t, true, b.f, 2, empty)
			h.valid(t, a.brokers <= b.brokers, b.f, 2, h.change(2, a.brokers-1, api.Cert{}))
		}
	}
}

// P16.1, R5: a table or a ledger that no call made.
func TestValidUnmade(t *testing.T) {
	for _, c := range clusters() {
		h := newHouse()
		for _, x := range []api.Change{h.change(2, 1, api.Cert{}), h.change(2, 1, h.at(c, 4), h.ready(c, 1, 6, nil)), {}, {View: 2}} {
			for _, bad := range h.unmade() {
				bad.valid(t, false, c.f, 2, x)
				bad.valid(t, false, 0, 2, x)
			}
			newHouse().valid(t, false, c.f, 2, x)
			h.valid(t, x.Sign.Digest > 0, c.f, 2, x)
		}
	}
}

// P16.1: each number, text and list within a view-change turned alone: as it is, and signed anew, which mends some of them.
func TestValidTurned(t *testing.T) {
	c := clusters()[0]
	h := newHouse()
	yes, no := 0, 0
	for _, x := range []api.Change{h.change(1, 0, api.Cert{}), h.rich(c, 3)[1], h.change(6, 3, h.at(c, 4), h.ready(c, 5, 5, h.batch(2)), h.ready(c, 0, 12, nil))} {
		h.valid(t, true, c.f, x.View, x)
		for _, y := range turned(x) {
			h.valid(t, same(x, y), c.f, x.View, y)
			y = h.signed(y)
			want := h.right(c.f, y.View, y)
			h.valid(t, want, c.f, y.View, y)
			if want {
				yes++
			} else {
				no++
			}
		}
	}
	enough(t, "valid", yes, 15)
	enough(t, "not valid", no, 300)
}

// P16.1: view-changes put together by chance, held against the chapter's words.
func TestValidAny(t *testing.T) {
	for _, c := range clusters() {
		yes, no := 0, 0
		dice := rand.New(rand.NewSource(int64(c.f)))
		h := newHouse()
		for range 1500 {
			f, view := c.f, 1+dice.Int63n(4)
			x := h.anyChange(dice, c, view, dice.Intn(c.brokers))
			switch dice.Intn(12) {
			case 0:
				x.From = dice.Intn(c.brokers+2) - 1
			case 1:
				x.View += dice.Int63n(3) - 1
			case 2:
				view += dice.Int63n(3) - 1
			case 3:
				f = dice.Intn(6)
			case 4:
				x.Cert = h.cert(dice.Int63n(10)-1, 3, upTo(dice.Intn(c.brokers+1))...)
			}
			if dice.Intn(3) > 0 {
				x = h.signed(x)
			}
			want := h.right(f, view, x)
			h.valid(t, want, f, view, x)
			if want {
				yes++
			} else {
				no++
			}
		}
		enough(t, "valid", yes, 300)
		enough(t, "not valid", no, 300)
	}
}

// anyChange is a valid view-change, mostly.
func (h house) anyChange(dice *rand.Rand, c cluster, view int64, from int) api.Change {
	low := 4 * dice.Int63n(3)
	var above []api.Prepared
	for seq := low + 1; seq <= low+8; seq++ {
		if dice.Intn(4) == 0 {
			above = append(above, h.ready(c, dice.Int63n(view), seq, h.batch(dice.Intn(5))))
		}
	}
	if n := len(above); n > 0 && dice.Intn(12) == 0 {
		p := above[dice.Intn(n)]
		above[dice.Intn(n)] = h.ready(c, p.View+dice.Int63n(3)-1, p.Seq+dice.Int63n(3)-1, p.Batch)
	}
	return h.change(view, from, h.at(c, low), above...)
}

// P16.1, P16.4: whatever Valid and Check are handed, neither table nor ledger is changed.
func TestOnlyLook(t *testing.T) {
	c := clusters()[0]
	h, fresh := newHouse(), newHouse()
	changes := slices.Concat(h.rich(c, 3), fresh.rich(c, 3), fresh.rich(c, 4), fresh.rich(clusters()[1], 3), []api.Change{{}, {View: 3}, fresh.change(3, 1, fresh.at(c, 4), fresh.ready(c, 7, 1, make(api.Batch, 9)))})
	news := []api.Msg{{}, {Kind: 8}, {Kind: 8, View: 3, From: 3, Changes: changes}, fresh.goodNew(c, 3), fresh.goodNew(c, 7), h.goodNew(c, 3)}
	for _, x := range changes {
		m := fresh.goodNew(c, 3)
		m.Changes[2] = x
		news = append(news, m, fresh.sealed(m))
	}
	before := h.clone()
	for _, f := range append(wrongFaults(), 1, 2, 3, 4) {
		for _, x := range changes {
			newview.Valid(h.x, h.l, f, 3, x)
		}
		for _, m := range news {
			newview.Check(h.x, h.l, f, m)
		}
	}
	h.sameAs(t, before)
}

// THE BOUND: what a table and a ledger hold is not gone through, nor a list that is longer than may be more than once or twice.
func TestValidNearLinear(t *testing.T) {
	c := clusters()[3]
	h := newHouse()
	for i := range 1 << 16 {
		h.x.Sum([]byte("filler " + strconv.Itoa(i)))
		h.l.Sign(i%api.MaxKeys, api.Digest(1+i))
	}
	x := h.change(3, 1, h.at(c, 4), h.ready(c, 1, 6, h.batch(4)))
	m := h.goodNew(c, 3)
	if n := allocated(func() {
		for range 20 {
			if !newview.Valid(h.x, h.l, 4, 3, x) {
				t.Error("not valid")
			}
			if _, _, is := newview.Check(h.x, h.l, 4, m); !is {
				t.Error("not a new view")
			}
		}
	}); n > 1<<23 {
		t.Errorf("%d bytes of memory", n)
	}
	long := h.change(3, 1, api.Cert{})
	for range 1 << 16 {
		long.Above = append(long.Above, x.Above[0])
	}
	m.Changes[1] = long
	if n := allocated(func() {
		if newview.Valid(h.x, h.l, 4, 3, long) {
			t.Error("what is too long is valid")
		}
		if _, _, is := newview.Check(h.x, h.l, 4, m); is {
			t.Error("what is too long is a new view")
		}
	}); n > 1<<28 {
		t.Errorf("%d bytes of memory", n)
	}
}

// R5, R1: objects of which no call made any, with whatever else.
func TestUnmade(t *testing.T) {
	for _, h := range []house{{nil, nil}, {&ideal.Table{}, &ideal.Ledger{}}} {
		for _, f := range []int{-1, 0, 1, 4, 5} {
			for _, view := range []int64{-1, 0, 1, most + 1} {
				h.valid(t, false, f, view, api.Change{View: view})
				h.make(t, f, view)
				h.make(t, f, view, api.Change{View: view}, api.Change{View: view, From: 1}, api.Change{View: view, From: 2})
				h.check(t, false, f, api.Msg{Kind: 8, View: view})
			}
		}
	}
}
