package auth_test

import (
	"bytes"
	"math"
	"testing"

	"bulla/api"
	"bulla/auth"
	"bulla/message"
)

// P11.3: Seal of each Kind, told one by one: whose signature, over which text, and where it stands.
func TestSeal(t *testing.T) {
	for _, m := range samples() {
		h := newHouse([]byte("a"), []byte("b"))
		s := h.sealed(t, m)
		if signOf(&m) == nil { // nobody signs it
			if !same(s, m) || h.x.Len() != 2 || h.l.Len() != 0 {
				t.Errorf("Seal(%+v) = %+v", m, s)
			}
			continue
		}
		want := withSign(m, sign(m.From, 3))
		if !same(s, want) || h.x.Len() != 3 || h.l.Len() != 1 || !h.l.Signed(sign(m.From, 3)) {
			t.Errorf("Seal(%+v) = %+v", m, s)
		}
		b, _ := h.x.Open(3)
		if c, _ := content(m); !bytes.Equal(b, c) {
			t.Errorf("the signature of Kind %d stands over %v, want %v", m.Kind, b, c)
		}
		if m.Kind == 7 && (s.Sign != (api.Sign{}) || s.Changes[0].Sign != sign(m.From, 3)) || m.Kind != 7 && s.Sign != sign(m.From, 3) {
			t.Errorf("the signature of Kind %d stands elsewhere: %+v", m.Kind, s)
		}
		h.valid(t, true, s)
	}
}

// P11.3: the numbers go on as texts come; what was sealed once has its number.
func TestSealAgain(t *testing.T) {
	h := newHouse()
	prepare := api.Msg{Kind: api.MsPrepare, From: 1, View: 2, Seq: 3, Digest: 9}
	commit := prepare
	commit.Kind = api.MsCommit
	other := prepare
	other.From = 2
	for i, c := range []struct {
		m api.Msg
		s api.Sign
	}{
		{prepare, sign(1, 1)},
		{commit, sign(1, 2)},
		{prepare, sign(1, 1)},
		{other, sign(2, 1)},
		{auth.Change(api.Change{View: 1, From: 3}), sign(3, 3)},
		{auth.Change(api.Change{View: 1, From: 0}), sign(0, 4)},
		{withSign(other, sign(20, 5)), sign(2, 1)}, // whatever stood there
		{withSign(auth.Change(api.Change{View: 1, From: 3}), sign(-1, -1)), sign(3, 3)},
		{commit, sign(1, 2)},
	} {
		if m := h.sealed(t, c.m); *signOf(&m) != c.s {
			t.Errorf("%d: Seal(%+v) = %+v, want %v", i, c.m, m, c.s)
		}
	}
	if h.x.Len() != 4 || h.l.Len() != 5 {
		t.Errorf("%d texts, %d signatures", h.x.Len(), h.l.Len())
	}
}

// P11.3: of each Kind, of each broker, with any signature in its place.
func TestSealOfEachBroker(t *testing.T) {
	for _, m := range someoneSigns(append(ordinary(), small()...)) {
		h := newHouse()
		for from := -1; from < 14; from++ {
			for _, s := range anySigns() {
				o := withSign(withFrom(m, from), s)
				got, e := h.seal(t, o)
				want := api.OK
				if from < 0 || from > 12 {
					want = api.ErrMessage
				}
				if e != want || e == api.OK && signOf(&got).Key != from {
					t.Errorf("Seal(%+v) = %+v, %d, want %d", o, got, e, want)
				}
				h.valid(t, e == api.OK, got)
			}
		}
	}
}

// P11.3: Content's errors; nothing is learnt by them.
func TestSealErrors(t *testing.T) {
	h := newHouse()
	for _, m := range samples() {
		if signOf(&m) == nil {
			o := normal(m)
			o.Sign = sign(1, 1) // of its Kind there is none
			if got, e := h.seal(t, o); e != api.ErrMessage || !same(got, api.Msg{}) {
				t.Errorf("Seal(%+v) = %+v, %d", o, got, e)
			}
			h.valid(t, false, o)
		}
		for _, kind := range []int{0, 13, -1, math.MaxInt, math.MinInt} {
			o := normal(m)
			o.Kind = kind
			if got, e := h.seal(t, o); e != api.ErrMessage || !same(got, api.Msg{}) {
				t.Errorf("Seal(%+v) = %+v, %d", o, got, e)
			}
			h.valid(t, false, o)
		}
	}
	for _, c := range []struct {
		m api.Msg
		e api.Errno
	}{
		{api.Msg{}, api.ErrMessage},
		{api.Msg{Kind: 3, From: 1}, api.ErrMessage},
		{api.Msg{Kind: 7, From: 1, View: 1}, api.ErrMessage},
		{api.Msg{Kind: 7, From: 1, View: 1, Changes: []api.Change{{View: 1}}}, api.ErrMessage},
		{auth.Change(api.Change{}), api.ErrMessage},
		{auth.Change(api.Change{View: 1, Cert: api.Cert{Seq: 4, Digest: 1, Signs: make([]api.Sign, 1)}}), api.ErrSign},
		{api.Msg{Kind: 2, Seq: 1, Digest: 1, Batch: batch(5)}, api.ErrLong},
		{api.Msg{Kind: 10, State: make([]byte, 1<<18)}, api.ErrLong},
		{api.Msg{Kind: 11, Topic: "a/b"}, api.ErrName},
	} {
		if got, e := h.seal(t, c.m); e != c.e || !same(got, api.Msg{}) {
			t.Errorf("Seal of Kind %d: %+v, %d, want %d", c.m.Kind, got, e, c.e)
		}
		h.valid(t, false, c.m)
	}
	if h.x.Len() != 0 || h.l.Len() != 0 {
		t.Errorf("%d texts, %d signatures", h.x.Len(), h.l.Len())
	}
}

// P11.3: each number, text and list of each Kind turned alone: sealed just where it may be.
func TestSealTurned(t *testing.T) {
	taken := 0
	for _, m := range append(ordinary(), small()...) {
		h := newHouse()
		for _, o := range turned(m) {
			s, e := h.seal(t, o)
			h.valid(t, e == api.OK, s)
			if e == api.OK {
				taken++
			}
		}
	}
	if taken < 500 {
		t.Errorf("%d were sealed", taken)
	}
}

// P11.3: a table that is full, and one that has room for one more.
func TestSealFull(t *testing.T) {
	l := someoneSigns(ordinary())
	var texts [][]byte
	for _, m := range l[:4] {
		b, _ := content(m)
		texts = append(texts, b)
	}
	h := crowded(0, texts...)
	for i, m := range l {
		s, e := h.seal(t, m)
		if i < 4 && (e != api.OK || *signOf(&s) != sign(m.From, api.Digest(api.MaxSums-mostRoom+1+i))) || i >= 4 && e != api.ErrFull {
			t.Errorf("Seal(%+v) = %+v, %d", m, s, e)
		}
		h.valid(t, e == api.OK, s)
		h.valid(t, false, withSign(m, sign(m.From, api.MaxSums+1)))
	}
	if m, e := h.seal(t, api.Msg{Kind: 3}); e != api.ErrMessage { // named ahead of ErrFull
		t.Errorf("Seal: %+v, %d", m, e)
	}
	h.valid(t, true, h.sealed(t, ordinary()[9])) // nobody signs it

	h = crowded(1)
	last := h.sealed(t, l[2])
	if last.Sign != sign(l[2].From, api.MaxSums) {
		t.Errorf("Seal with the last number: %+v", last)
	}
	if m, e := h.seal(t, l[3]); e != api.ErrFull {
		t.Errorf("Seal behind the last number: %+v, %d", m, e)
	}
	h.valid(t, true, last)
}

// P11.3: ErrMade is ahead of all else, and nothing is valid, nor what nobody signs.
func TestSealOfNoCall(t *testing.T) {
	bad := []api.Msg{{}, {Kind: 13}, {Kind: 3}, {Kind: 7}, {Kind: 2, Seq: 1, Digest: 1, Batch: batch(5)}, {Kind: 11}}
	for _, h := range unmade() {
		h.untouched(t, func() {
			for _, m := range append(samples(), bad...) {
				if s, e := auth.Seal(h.x, h.l, m); e != api.ErrMade || !same(s, api.Msg{}) {
					t.Errorf("Seal of Kind %d: %+v, %d", m.Kind, s, e)
				}
				if auth.Valid(h.x, h.l, m) {
					t.Errorf("Valid of Kind %d", m.Kind)
				}
			}
		})
	}
	for _, m := range ordinary() {
		h := newHouse()
		s := h.sealed(t, m)
		if auth.Valid(nil, h.l, s) || auth.Valid(h.x, nil, s) || auth.Valid(nil, nil, s) {
			t.Errorf("Valid of Kind %d without table or ledger", m.Kind)
		}
		h.valid(t, true, s)
	}
}

// P11.3: what nobody signs is valid, just where it may be, whatever table and ledger have.
func TestValidOfNobodys(t *testing.T) {
	for _, m := range append(ordinary(), small()...) {
		if signOf(&m) != nil {
			continue
		}
		newHouse().valid(t, true, m)
		crowded(0).valid(t, true, m)
		for _, o := range turned(m) {
			want := message.Check(o) == api.OK
			newHouse().valid(t, want, o)
		}
	}
	h := newHouse()
	long := api.Msg{Kind: api.MsSnap, State: make([]byte, 1<<18)}
	if message.Check(long) != api.OK {
		t.Fatal("Check takes a State that leaves no room for the rest")
	}
	h.valid(t, false, long) // but it has no Content
	h.valid(t, true, api.Msg{Kind: api.MsSnap, State: make([]byte, 1<<18-8)})
}

// P11.3, P11.5: of what was sealed, with one number, text or list turned, nothing is valid, but where only what is not signed is another one.
func TestValidTurned(t *testing.T) {
	for _, learnt := range []bool{false, true} {
		taken := 0
		for _, m := range someoneSigns(append(ordinary(), small()...)) {
			h := newHouse()
			s := h.sealed(t, m)
			h.sealed(t, withFrom(m, 5)) // another one's
			for _, o := range turned(s) {
				if same(o, s) {
					continue
				}
				unsigned := o.Kind == 2 && m.Kind == 2 && same(saying(o), saying(s)) && o.From == s.From && o.Sign == s.Sign && message.Check(o) == api.OK
				if unsigned {
					taken++
				}
				if b, e := content(o); learnt && e == api.OK {
					h.learn(b)
				}
				h.valid(t, unsigned, o)
			}
			h.valid(t, true, s)
		}
		if taken < 10 {
			t.Errorf("%d with another batch", taken)
		}
	}
}

// P11.3: with another From, with another one's signature, with another Kind.
func TestValidOfOthers(t *testing.T) {
	for _, m := range someoneSigns(append(ordinary(), small()...)) {
		h := newHouse()
		var all []api.Msg
		for from := range 13 {
			all = append(all, h.sealed(t, withFrom(m, from)))
		}
		for i, a := range all {
			h.valid(t, true, a)
			for j, b := range all {
				h.valid(t, i == j, withSign(a, *signOf(&b)))
				h.valid(t, i == j, withFrom(a, j))
			}
			for key := 13; key < 22; key++ { // a client's key, and none
				h.l.Sign(key, signOf(&a).Digest)
				h.m.signs = h.l.Signs()
				h.valid(t, false, withSign(a, sign(key, signOf(&a).Digest)))
			}
		}
	}
	h := newHouse()
	prepare := h.sealed(t, api.Msg{Kind: api.MsPrepare, From: 1, View: 2, Seq: 3, Digest: 9})
	commit := prepare
	commit.Kind = api.MsCommit
	h.valid(t, false, commit)
	first := prepare
	first.Kind = api.MsPrePrepare
	h.valid(t, false, first)
	point := api.Msg{Kind: api.MsCheckpoint, From: 1, Seq: 3, Digest: 9, Sign: prepare.Sign}
	h.valid(t, false, point)
}

// P11.3: signatures that nobody made, or over another number; a table that knows the message by another one.
func TestValidOfUnsigned(t *testing.T) {
	for _, m := range someoneSigns(ordinary()) {
		b, _ := content(m)
		h := newHouse([]byte("a"), b, []byte("c"))
		for d := range api.Digest(5) {
			h.valid(t, false, withSign(m, sign(m.From, d)))
		}
		h.sign(sign(m.From, 1), sign(m.From, 3), sign(m.From, 4))
		for _, s := range append(anySigns(), sign(m.From, 1), sign(m.From, 3), sign(m.From, 4)) {
			h.valid(t, false, withSign(m, s))
		}
		h.sign(sign(m.From, 2)) // with Seal or without
		h.valid(t, true, withSign(m, sign(m.From, 2)))

		o := newHouse(b)
		s := o.sealed(t, m)
		h.valid(t, false, s)
		o.valid(t, true, s)
		none := newHouse()
		none.sign(*signOf(&s))
		none.valid(t, false, s)
		other := o.clone()
		other.l, other.m.signs = newHouse().l, nil
		other.valid(t, false, s)
	}
}

// P11.3: what is within a message is not asked: requests, changes, certificates, entries that nobody signed.
func TestValidWithin(t *testing.T) {
	for _, kind := range []int{2, 7, 8} {
		m := ordinary()[kind-1]
		h := newHouse()
		h.valid(t, true, h.sealed(t, m))
		if h.x.Len() != 1 || h.l.Len() != 1 {
			t.Errorf("%d texts, %d signatures", h.x.Len(), h.l.Len())
		}
	}
	h := newHouse()
	h.valid(t, true, ordinary()[0])
	h.valid(t, true, ordinary()[9])
}

// P11.3: a view-change's signature is its change's; that of a change within a new view says nothing of the new view.
func TestValidChanges(t *testing.T) {
	h := newHouse()
	c := h.sealed(t, auth.Change(change(3, 2)))
	h.valid(t, true, auth.Change(c.Changes[0]))
	both := normal(c)
	both.Sign = c.Changes[0].Sign // of the Kind there is none
	h.valid(t, false, both)
	moved := normal(both)
	moved.Changes[0].Sign = api.Sign{}
	h.valid(t, false, moved)
	two := normal(c)
	two.Changes = append(two.Changes, two.Changes[0])
	h.valid(t, false, two)

	n := h.sealed(t, api.Msg{Kind: api.MsNewView, From: 3, View: 2, Changes: c.Changes})
	h.valid(t, true, n)
	h.valid(t, false, withSign(n, c.Changes[0].Sign))
	h.valid(t, false, withSign(c, n.Sign))
	o := normal(n)
	o.Changes[0].Sign = n.Sign // all of a change counts in a new view, its signature too
	h.valid(t, false, o)
}

// R3: Seal neither writes to what is handed in nor keeps it, and what it answers is nobody else's; Valid writes to nothing.
func TestSealKeepsOff(t *testing.T) {
	for _, m := range samples() {
		h := newHouse()
		x, written := roomy(m)
		a, b := h.sealed(t, x), h.sealed(t, x)
		want := normal(b)
		h.valid(t, true, a)
		scribble(&a)
		if !same(x, m) || written() || !same(b, want) {
			t.Fatalf("Seal shares memory: %+v, %+v", x, b)
		}
		scribble(&x)
		if !same(b, want) {
			t.Fatalf("Seal sees what is written: %+v", b)
		}
		y, written := roomy(b)
		h.valid(t, true, y)
		if written() {
			t.Fatalf("Valid wrote behind a list of Kind %d", m.Kind)
		}
	}
}
