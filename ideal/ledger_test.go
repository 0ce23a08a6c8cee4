package ideal_test

import (
	"math"
	"math/rand"
	"slices"
	"testing"

	"bulla/api"
	"bulla/ideal"
)

// signed is a ledger in which these are signed.
func signed(t *testing.T, signs ...api.Sign) *ideal.Ledger {
	t.Helper()
	l := ideal.NewLedger()
	for _, s := range signs {
		sign(t, l, s)
	}
	return l
}

func sign(t *testing.T, l *ideal.Ledger, s api.Sign) {
	t.Helper()
	if g, e := l.Sign(s.Key, s.Digest); g != s || e != api.OK {
		t.Fatalf("Sign(%d, %d) = %v, %d", s.Key, s.Digest, g, e)
	}
}

// notes tells where a ledger is not one of just these signatures, in this order.
func notes(t *testing.T, l *ideal.Ledger, signs ...api.Sign) {
	t.Helper()
	if l.Len() != len(signs) || !slices.Equal(l.Signs(), signs) {
		t.Errorf("Len %d, Signs %v, want %v", l.Len(), l.Signs(), signs)
	}
	for _, s := range signs {
		if !l.Signed(s) {
			t.Errorf("%v is not signed", s)
		}
	}
}

// P2.2: what is signed, of each key that there is.
func TestSign(t *testing.T) {
	l := ideal.NewLedger()
	notes(t, l)
	var all []api.Sign
	for key := range api.MaxKeys {
		for _, d := range []api.Digest{1, 2, api.MaxSums, math.MaxInt64} {
			s := api.Sign{Key: key, Digest: d}
			if l.Signed(s) {
				t.Errorf("%v is signed by nobody", s)
			}
			sign(t, l, s)
			all = append(all, s)
		}
	}
	notes(t, l, all...)
}

// P2.2: the errors, in their order; they change nothing.
func TestSignErrors(t *testing.T) {
	first := api.Sign{Key: 3, Digest: 1}
	l := signed(t, first)
	for _, x := range []struct {
		key int
		d   api.Digest
		e   api.Errno
	}{
		{-1, 1, api.ErrKey},
		{api.MaxKeys, 1, api.ErrKey},
		{math.MinInt, 1, api.ErrKey},
		{math.MaxInt, 1, api.ErrKey},
		{-1, 0, api.ErrKey}, // named ahead of ErrArg
		{api.MaxKeys, -1, api.ErrKey},
		{0, 0, api.ErrArg},
		{3, 0, api.ErrArg},
		{3, -1, api.ErrArg},
		{api.MaxKeys - 1, math.MinInt64, api.ErrArg},
	} {
		if s, e := l.Sign(x.key, x.d); s != (api.Sign{}) || e != x.e {
			t.Errorf("Sign(%d, %d) = %v, %d, want %d", x.key, x.d, s, e, x.e)
		}
		if l.Signed(api.Sign{Key: x.key, Digest: x.d}) {
			t.Errorf("what was refused is signed: %d, %d", x.key, x.d)
		}
		notes(t, l, first)
	}
}

// P2.2: signatures are told once each, in the order in which they were first signed.
func TestSigns(t *testing.T) {
	a, b, c := api.Sign{Key: 5, Digest: 9}, api.Sign{Key: 0, Digest: 12}, api.Sign{Key: 5, Digest: 2}
	l := signed(t, a, b, a, c, b, a, c)
	notes(t, l, a, b, c)
	for _, s := range []api.Sign{
		{}, {Key: 5}, {Key: 9, Digest: 5}, {Key: 5, Digest: 12}, {Key: 0, Digest: 9}, {Key: 0, Digest: 2}, {Key: 4, Digest: 9},
		{Key: 5, Digest: 10}, {Key: 5, Digest: -9}, {Key: -5, Digest: 9}, {Key: 5 + api.MaxKeys, Digest: 9}, {Key: 5, Digest: 9 + 1<<32},
		{Key: math.MaxInt, Digest: math.MaxInt64}, {Key: math.MinInt, Digest: math.MinInt64},
	} {
		if l.Signed(s) {
			t.Errorf("%v is signed", s)
		}
	}
	notes(t, l, a, b, c) // to ask signs nothing
}

// P2.2: a clone goes its own way, and so does what it was made of.
func TestLedgerClone(t *testing.T) {
	a, b, c := api.Sign{Key: 1, Digest: 1}, api.Sign{Key: 2, Digest: 2}, api.Sign{Key: 3, Digest: 3}
	for _, had := range [][]api.Sign{nil, {a}, {a, {Key: 9, Digest: 9}, {Key: 8, Digest: 9}, {Key: 9, Digest: 8}, {Key: 7, Digest: 1}}} {
		l := signed(t, had...)
		m := l.Clone()
		n := m.Clone()
		notes(t, m, had...)
		sign(t, l, b)
		sign(t, m, c)
		sign(t, m, b)
		notes(t, l, append(slices.Clone(had), b)...)
		notes(t, m, append(slices.Clone(had), c, b)...)
		notes(t, n, had...)
		if l.Signed(c) || n.Signed(b) || n.Signed(c) {
			t.Error("a clone knows what another one signed")
		}
	}
}

// P2.2: a ledger that no call made.
func TestLedgerOfNoCall(t *testing.T) {
	var none *ideal.Ledger
	for _, l := range []*ideal.Ledger{none, {}, new(ideal.Ledger)} {
		for _, x := range []struct {
			key int
			d   api.Digest
		}{{3, 1}, {-1, 1}, {api.MaxKeys, 0}, {0, 0}} { // ErrMade is named ahead of the others
			s, e := l.Sign(x.key, x.d)
			if s != (api.Sign{}) || e != api.ErrMade {
				t.Errorf("Sign(%d, %d) = %v, %d", x.key, x.d, s, e)
			}
			if l.Signed(api.Sign{Key: x.key, Digest: x.d}) {
				t.Errorf("%d, %d is signed", x.key, x.d)
			}
		}
		if l.Signed(api.Sign{}) || l.Len() != 0 || l.Signs() != nil || l.Clone() != nil {
			t.Error("Signed, Len, Signs or Clone tell something:", l.Len(), l.Signs(), l.Clone())
		}
	}
	if l := ideal.NewLedger().Clone(); l == nil {
		t.Error("a clone of a ledger of nothing is one that a call made")
	} else if _, e := l.Sign(3, 1); e != api.OK {
		t.Error("a clone of a ledger of nothing does not sign:", e)
	}
}

// R3: what a ledger answered is nobody else's.
func TestLedgerKeepsOff(t *testing.T) {
	a, b := api.Sign{Key: 1, Digest: 1}, api.Sign{Key: 2, Digest: 2}
	l := signed(t, a, b)
	for range 3 {
		s := l.Signs()
		clear(s)
		_ = append(s[:1], api.Sign{Key: 7, Digest: 7})
		_ = append(s, api.Sign{Key: 7, Digest: 7})
		notes(t, l, a, b)
	}
	s := l.Signs()
	sign(t, l, api.Sign{Key: 3, Digest: 3})
	if !slices.Equal(s, []api.Sign{a, b}) {
		t.Error("what was answered changes later on:", s)
	}
}

// P2.4: of all signatures of some keys and digests, just those are signed that Sign has answered.
func TestNobodyElse(t *testing.T) {
	dice := rand.New(rand.NewSource(3))
	l := ideal.NewLedger()
	answered := map[api.Sign]bool{}
	for range 300 {
		if s, e := l.Sign(dice.Intn(api.MaxKeys+6)-3, api.Digest(dice.Intn(36)-4)); e == api.OK {
			answered[s] = true
		}
	}
	for key := -4; key < api.MaxKeys+4; key++ {
		for d := api.Digest(-6); d < 40; d++ {
			if s := (api.Sign{Key: key, Digest: d}); l.Signed(s) != answered[s] {
				t.Errorf("%v: signed is %v", s, !answered[s])
			}
		}
	}
	if l.Len() != len(answered) {
		t.Errorf("%d are signed, %d were answered", l.Len(), len(answered))
	}
}
