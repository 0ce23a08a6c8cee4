package point_test

import (
	"math/rand"
	"runtime"
	"slices"
	"strconv"
	"testing"

	"bulla/api"
	"bulla/auth"
	"bulla/ideal"
	"bulla/point"
)

// house is a table and a ledger.
type house struct {
	x *ideal.Table
	l *ideal.Ledger
}

func newHouse() house {
	return house{ideal.NewTable(), ideal.NewLedger()}
}

// sign is a key's signature over a vote, also over one that auth does not make.
func (h house) sign(key, kind int, view, seq int64, d api.Digest) api.Sign {
	s, _ := h.l.Sign(key, h.x.Sum(auth.VoteBytes(kind, view, seq, d)))
	return s
}

func (h house) vote(key int, seq int64, d api.Digest) api.Vote {
	return api.Vote{Seq: seq, Digest: d, Sign: h.sign(key, 6, 0, seq, d)}
}

// cert is a certificate signed by these keys.
func (h house) cert(seq int64, d api.Digest, keys ...int) api.Cert {
	c := api.Cert{Seq: seq, Digest: d}
	for _, k := range keys {
		c.Signs = append(c.Signs, h.vote(k, seq, d).Sign)
	}
	return c
}

// valid holds Valid against what it has to say, and against that it changes nothing.
func (h house) valid(t *testing.T, f int, c api.Cert, want bool) {
	t.Helper()
	first, sums, signed := copyCert(c), h.x.Len(), h.l.Len()
	for range 2 {
		if is := point.Valid(h.x, h.l, f, c); is != want {
			t.Errorf("Valid(%d, %+v) = %v", f, c, is)
		}
	}
	if !sameCert(c, first) || h.x.Len() != sums || h.l.Len() != signed {
		t.Fatalf("Valid(%d, %+v) has changed what it was handed", f, first)
	}
}

// P14.1: certificates with signatures of enough brokers, whichever these are.
func TestValid(t *testing.T) {
	for _, c := range clusters() {
		h := newHouse()
		for _, seq := range someSeqs() {
			for _, d := range someDigests() {
				h.valid(t, c.f, h.cert(seq, d, upTo(c.big)...), true)
			}
		}
		dice := rand.New(rand.NewSource(int64(c.f)))
		for n := c.big; n <= c.brokers; n++ {
			h.valid(t, c.f, h.cert(4, 9, upTo(n)...), true)
			h.valid(t, c.f, h.cert(4, 9, upTo(c.brokers)[c.brokers-n:]...), true)
			for range 10 {
				keys := dice.Perm(c.brokers)[:n]
				slices.Sort(keys)
				h.valid(t, c.f, h.cert(4, 9, keys...), true)
			}
		}
	}
}

// P14.1: the zero certificate is valid, and no other one of Seq 0.
func TestValidOfNone(t *testing.T) {
	for _, h := range []house{newHouse(), {ideal.NewTable(), newHouse().l}} {
		for _, c := range clusters() {
			h.valid(t, c.f, api.Cert{}, true)
			h.valid(t, c.f, api.Cert{Signs: []api.Sign{}}, true)
			for _, d := range append(someDigests(), -1, most+1) {
				h.valid(t, c.f, api.Cert{Digest: d}, false)
			}
		}
	}
	for _, c := range clusters() {
		h := newHouse()
		for n := 1; n <= c.brokers; n++ {
			h.valid(t, c.f, h.cert(0, 0, upTo(n)...), false)
			h.valid(t, c.f, h.cert(0, 9, upTo(n)...), false)
		}
		h.valid(t, c.f, api.Cert{Signs: signs(0)}, false)
		h.valid(t, c.f, api.Cert{Signs: make([]api.Sign, c.big)}, false)
	}
}

// P14.1: an f that may not be.
func TestValidWrongFaults(t *testing.T) {
	h := newHouse()
	for _, f := range wrongFaults() {
		h.valid(t, f, api.Cert{}, false)
		for _, c := range clusters() {
			h.valid(t, f, h.cert(4, 9, upTo(c.big)...), false)
		}
		h.valid(t, f, api.Cert{Seq: 4, Digest: 9}, false)
		h.valid(t, f, h.cert(4, 9, upTo(api.MaxKeys)...), false)
	}
	for _, a := range clusters() { // and another f than it was made for
		for _, b := range clusters() {
			h.valid(t, b.f, h.cert(4, 9, upTo(a.big)...), a.big >= b.big && a.big <= b.brokers)
		}
	}
}

// P14.1: a table or a ledger that no call made, as nothing says it of the zero certificate but that.
func TestValidUnmade(t *testing.T) {
	for _, c := range clusters() {
		h := newHouse()
		x := h.cert(4, 9, upTo(c.big)...)
		none := newHouse()
		for _, bad := range []house{{nil, h.l}, {h.x, nil}, {nil, nil}, {&ideal.Table{}, h.l}, {h.x, &ideal.Ledger{}}, {&ideal.Table{}, &ideal.Ledger{}}, {nil, none.l}, {none.x, nil}, {&ideal.Table{}, none.l}, {none.x, &ideal.Ledger{}}} {
			bad.valid(t, c.f, api.Cert{}, false)
			bad.valid(t, c.f, x, false)
			bad.valid(t, 0, api.Cert{}, false)
		}
		h.valid(t, c.f, api.Cert{}, true)
		h.valid(t, c.f, x, true)
		none.valid(t, c.f, x, false)
	}
}

// P14.1: numbers that may not be, also where they are signed.
func TestValidWrongNumbers(t *testing.T) {
	for _, c := range clusters() {
		h := newHouse()
		for _, seq := range wrongSeqs() {
			h.valid(t, c.f, h.cert(seq, 9, upTo(c.big)...), false)
			h.valid(t, c.f, api.Cert{Seq: seq}, false)
		}
		for _, d := range wrongDigests() {
			h.valid(t, c.f, h.cert(4, d, upTo(c.big)...), false)
		}
		if x, e := auth.Vote(h.x, h.l, 0, 6, 0, 3, 9); e != 0 || x != h.sign(0, 6, 0, 3, 9) {
			t.Fatal("the test does not sign as auth does")
		}
	}
}

// P14.1: Keys that are no broker's, though signed; that do not rise, or are too few.
func TestValidWrongKeys(t *testing.T) {
	for _, c := range clusters() {
		h := newHouse()
		for _, k := range wrongKeys(c.brokers) {
			h.valid(t, c.f, h.cert(4, 9, append([]int{k}, upTo(c.big)...)...), false)
			h.valid(t, c.f, h.cert(4, 9, append([]int{k}, upTo(c.big)[1:]...)...), false)
			h.valid(t, c.f, h.cert(4, 9, append(upTo(c.big), k)...), false)
			h.valid(t, c.f, h.cert(4, 9, append(upTo(c.big-1), k)...), false)
		}
		for n := range c.big {
			h.valid(t, c.f, h.cert(4, 9, upTo(n)...), false)
			h.valid(t, c.f, h.cert(4, 9, upTo(c.brokers)[c.brokers-n:]...), false)
		}
		h.valid(t, c.f, h.cert(4, 9, upTo(c.brokers+1)...), false)
		for i := range c.brokers {
			for j := range c.brokers {
				keys := upTo(c.brokers)
				keys[i], keys[j] = j, i
				h.valid(t, c.f, h.cert(4, 9, keys...), i == j)
				keys = upTo(c.brokers)
				keys[i] = j
				h.valid(t, c.f, h.cert(4, 9, keys...), i == j)
			}
			h.valid(t, c.f, h.cert(4, 9, slices.Insert(upTo(c.brokers), i, i)...), false)
			h.valid(t, c.f, h.cert(4, 9, slices.Insert(upTo(c.big-1), min(i, c.big-2), min(i, c.big-2))...), false)
		}
	}
}

// P14.1: one signature, in whichever place, that is for another Kind, view, Seq or Digest, or that nobody or another key has signed.
func TestValidOtherSigned(t *testing.T) {
	for _, c := range clusters() {
		for n := c.big; n <= c.brokers; n++ {
			for i := range n {
				h := newHouse()
				x := h.cert(4, 9, upTo(n)...)
				with := func(s api.Sign) {
					t.Helper()
					y := copyCert(x)
					y.Signs[i] = s
					h.valid(t, c.f, y, s == x.Signs[i])
				}
				for kind := range 14 {
					with(h.sign(i, kind, 0, 4, 9))
				}
				with(h.sign(i, 6, 1, 4, 9))
				with(h.sign(i, 6, most, 4, 9))
				with(h.sign(i, 6, 0, 8, 9))
				with(h.sign(i, 6, 0, 0, 9))
				with(h.sign(i, 6, 0, 4, 8))
				with(h.sign(i, 6, 0, 4, 10))
				with(h.sign(i, 6, 0, 9, 4))
				with(h.sign((i+1)%n, 6, 0, 4, 9))
				with(api.Sign{Key: i})
				with(api.Sign{Key: i, Digest: -1})
				with(api.Sign{Key: i, Digest: most})
				with(x.Signs[i])
			}
			silent := newHouse() // all have signed but one: its signature says the same as the others', but for the Key
			for i := range n {
				if i != n/2 {
					silent.vote(i, 4, 9)
				}
			}
			said := silent.vote(0, 4, 9).Sign.Digest
			x := api.Cert{Seq: 4, Digest: 9}
			for i := range n {
				x.Signs = append(x.Signs, api.Sign{Key: i, Digest: said})
			}
			silent.valid(t, c.f, x, false)
			silent.vote(n/2, 4, 9)
			silent.valid(t, c.f, x, true)
			x.Seq = 8
			silent.valid(t, c.f, x, false)
			x.Seq, x.Digest = 4, 8
			silent.valid(t, c.f, x, false)
		}
	}
}

func allocated(do func()) uint64 {
	var a, b runtime.MemStats
	runtime.ReadMemStats(&a)
	do()
	runtime.ReadMemStats(&b)
	return b.TotalAlloc - a.TotalAlloc
}

// THE BOUND: neither is what a table and a ledger hold gone through, nor a list that is longer than may be.
func TestValidNearLinear(t *testing.T) {
	h := newHouse()
	for i := range 1 << 16 {
		h.x.Sum([]byte("filler " + strconv.Itoa(i)))
		h.l.Sign(i%api.MaxKeys, api.Digest(1+i))
	}
	x := h.cert(4, 9, upTo(9)...)
	long := api.Cert{Seq: 4, Digest: 9, Signs: make([]api.Sign, 1<<20)}
	for i := range long.Signs {
		long.Signs[i].Key = i
	}
	if n := allocated(func() {
		for range 100 {
			h.valid(t, 4, x, true)
			h.valid(t, 4, api.Cert{}, true)
			if point.Valid(h.x, h.l, 4, long) {
				t.Error("a long list is taken")
			}
		}
	}); n > 1<<22 {
		t.Errorf("%d bytes of memory", n)
	}
}
