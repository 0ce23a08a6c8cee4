package request_test

import (
	"math"
	"slices"
	"strconv"
	"testing"

	"bulla/api"
	"bulla/ideal"
	"bulla/request"
)

// knows tells where a table does not know just these texts, in this order.
func knows(t *testing.T, u *ideal.Table, texts ...[]byte) {
	t.Helper()
	if got := u.Plain(); !slices.EqualFunc(got, texts, slices.Equal) {
		t.Errorf("the table knows %v, want %v", got, texts)
	}
}

// holds tells where a ledger does not know just these signatures, in this order.
func holds(t *testing.T, l *ideal.Ledger, signs ...api.Sign) {
	t.Helper()
	if got := l.Signs(); !slices.Equal(got, signs) {
		t.Errorf("the ledger has %v, want %v", got, signs)
	}
}

// full is a table in which these texts are the first ones, and which has MaxSums.
func full(t *testing.T, texts ...[]byte) *ideal.Table {
	t.Helper()
	l := slices.Clone(texts)
	for i := len(l); i < api.MaxSums; i++ {
		l = append(l, []byte("no request: "+strconv.Itoa(i)))
	}
	u, e := ideal.From(l...)
	if e != api.OK {
		t.Fatal(e)
	}
	return u
}

// P8.3: Seal, of unlike clients and twice the same; what table and ledger know then.
func TestSeal(t *testing.T) {
	u, l := ideal.NewTable(), ideal.NewLedger()
	x := api.Request{Client: 2, Time: 7, Op: create("t")}
	y := api.Request{Client: 7, Time: 7, Op: create("t")}
	z := api.Request{Client: 2, Time: 8, Op: create("t")}
	for _, c := range []struct {
		x api.Request
		s api.Sign
	}{
		{x, api.Sign{Key: 15, Digest: 1}},
		{x, api.Sign{Key: 15, Digest: 1}},
		{y, api.Sign{Key: 20, Digest: 2}},
		{z, api.Sign{Key: 15, Digest: 3}},
		{y, api.Sign{Key: 20, Digest: 2}},
		{api.Request{Client: 0, Time: 1}, api.Sign{Key: 13, Digest: 4}},
		{x, api.Sign{Key: 15, Digest: 1}},
	} {
		if s := seal(t, u, l, c.x); s.Sign != c.s || !same(s.Request, c.x) {
			t.Errorf("Seal(%+v) = %+v, want %+v", c.x, s, c.s)
		}
	}
	knows(t, u, form(x), form(y), form(z), []byte{0, 1, 0})
	holds(t, l, api.Sign{Key: 15, Digest: 1}, api.Sign{Key: 20, Digest: 2}, api.Sign{Key: 15, Digest: 3}, api.Sign{Key: 13, Digest: 4})
}

// P8.3: a table that knows the request already, and a ledger that has its signature.
func TestSealOfKnown(t *testing.T) {
	x := ask(1, 5)
	u, _ := ideal.From([]byte("a"), form(x), []byte("b"))
	l := ideal.NewLedger()
	l.Sign(14, 2)
	if s := seal(t, u, l, x); s.Sign != (api.Sign{Key: 14, Digest: 2}) {
		t.Errorf("Seal: %+v", s)
	}
	if u.Len() != 3 || l.Len() != 1 {
		t.Errorf("%d texts, %d signatures", u.Len(), l.Len())
	}
}

// refused tells where Seal does not answer an error, or answers or changes something beside it.
func refused(t *testing.T, u *ideal.Table, l *ideal.Ledger, x api.Request, e api.Errno) {
	t.Helper()
	texts, signs := u.Len(), l.Len()
	if s, f := request.Seal(u, l, x); f != e || !sameBatch(api.Batch{s}, api.Batch{{}}) {
		t.Errorf("Seal(%+v) = %+v, %d, want %d", x, s, f, e)
	}
	if u.Len() != texts || l.Len() != signs {
		t.Errorf("Seal(%+v) with the error %d: %d texts, %d signatures", x, e, u.Len(), l.Len())
	}
}

// P8.3: Seal of requests that may not be, and with what no call made: the request's error comes first.
func TestSealRefuses(t *testing.T) {
	u, l := ideal.NewTable(), ideal.NewLedger()
	some, known := ideal.NewTable(), ideal.NewLedger()
	seal(t, some, known, ask(1, 1))
	bad := all()
	for _, x := range bad {
		if e := check(x); e != api.OK {
			refused(t, u, l, x, e)
			refused(t, nil, nil, x, e)
		}
	}
	for _, x := range []api.Request{ask(1, 1), ask(2, 9)} {
		for _, v := range tablesOfNoCall() {
			refused(t, v, l, x, api.ErrMade)
			refused(t, v, known, x, api.ErrMade)
			for _, m := range ledgersOfNoCall() {
				refused(t, v, m, x, api.ErrMade)
				refused(t, u, m, x, api.ErrMade)
				refused(t, some, m, x, api.ErrMade)
				refused(t, v, m, api.Request{Client: 8}, api.ErrRequest)
				refused(t, v, m, api.Request{Client: 1, Time: 1, Op: create("")}, api.ErrName)
			}
		}
	}
	knows(t, u)
	holds(t, l)
}

// P8.3: a full table gives no number, and knows what it has.
func TestFull(t *testing.T) {
	x, y := ask(1, 1), ask(2, 2)
	b := api.Batch{{Request: x, Sign: api.Sign{Key: 14, Digest: 1}}}
	u, l := full(t, form(x), batchForm(b)), ideal.NewLedger()
	refused(t, u, l, y, api.ErrArg)
	refused(t, u, nil, y, api.ErrMade)
	refused(t, u, l, api.Request{}, api.ErrRequest)
	if s := seal(t, u, l, x); s.Sign != b[0].Sign || !request.Valid(u, l, s) {
		t.Errorf("Seal: %+v", s)
	}
	if d, e := request.Digest(u, b); d != 2 || e != api.OK {
		t.Errorf("Digest of what is known: %d, %d", d, e)
	}
	for _, c := range []api.Batch{nil, batch(1), batch(4)} {
		if d, e := request.Digest(u, c); d != 0 || e != api.ErrFull {
			t.Errorf("Digest(%+v): %d, %d", c, d, e)
		}
	}
	for _, c := range badBatches() {
		if d, e := request.Digest(u, c); d != 0 || e != checkBatch(c) {
			t.Errorf("Digest(%+v): %d, %d", c, d, e)
		}
	}
	if !request.ValidBatch(u, l, b) || request.ValidBatch(u, l, batch(1)) || u.Len() != api.MaxSums {
		t.Error("ValidBatch with a full table")
	}
	late, ledger := full(t), ideal.NewLedger()
	if v, _ := ideal.From(late.Plain()[:api.MaxSums-1]...); seal(t, v, ledger, y).Sign.Digest != api.MaxSums {
		t.Error("the last number is not given")
	} else if d, e := request.Digest(v, nil); d != 0 || e != api.ErrFull {
		t.Errorf("Digest behind the last number: %d, %d", d, e)
	}
}

// valid tells where Valid does not say so, where ValidBatch of it alone says something else, and where they change table or ledger.
func valid(t *testing.T, u *ideal.Table, l *ideal.Ledger, s api.Signed, want bool) {
	t.Helper()
	texts, signs := u.Len(), l.Len()
	if got := request.Valid(u, l, s); got != want {
		t.Errorf("Valid(%+v) = %v", s, got)
	}
	if got := request.ValidBatch(u, l, api.Batch{s}); got != want {
		t.Errorf("ValidBatch of %+v = %v", s, got)
	}
	if u.Len() != texts || l.Len() != signs {
		t.Errorf("Valid(%+v) taught: %d texts, %d signatures", s, u.Len(), l.Len())
	}
}

// P8.3, P8.6: of what was sealed Valid says yes, with any one field changed no, also where the table knows what stands there then.
func TestValidChanged(t *testing.T) {
	commit := api.Op{Kind: api.OpCommit, Topic: "t", Group: "g", Offset: 7}
	for _, learnt := range []bool{false, true} {
		for _, o := range []api.Op{commit, publish("a", "b")} {
			u, l := ideal.NewTable(), ideal.NewLedger()
			x := api.Request{Client: 3, Time: 9, Op: o}
			fresh := seal(t, u, l, x)
			seal(t, u, l, ask(4, 4))
			for i, change := range []func(s *api.Signed){
				func(s *api.Signed) { s.Request.Client = 4 },
				func(s *api.Signed) { s.Request.Client = 8 },
				func(s *api.Signed) { s.Request.Client = -1 },
				func(s *api.Signed) { s.Request.Time = 8 },
				func(s *api.Signed) { s.Request.Time = 10 },
				func(s *api.Signed) { s.Request.Time = 0 },
				func(s *api.Signed) { s.Request.Time = -9 },
				func(s *api.Signed) { s.Request.Op.Kind = 5 },
				func(s *api.Signed) { s.Request.Op = api.Op{} },
				func(s *api.Signed) { s.Request.Op.Topic = "u" },
				func(s *api.Signed) { s.Request.Op.Topic = "" },
				func(s *api.Signed) { s.Request.Op.Group += "h" },
				func(s *api.Signed) { s.Request.Op.Offset++ },
				func(s *api.Signed) { s.Request.Op.Records = append(slices.Clone(s.Request.Op.Records), api.Record{}) },
				func(s *api.Signed) { s.Request.Op.Records = []api.Record{{'a'}, {'c'}} },
				func(s *api.Signed) { s.Sign.Key = 17 },
				func(s *api.Signed) { s.Sign.Key = 3 },
				func(s *api.Signed) { s.Sign.Key = -1 },
				func(s *api.Signed) { s.Sign.Key = 21 },
				func(s *api.Signed) { s.Sign.Digest = 2 },
				func(s *api.Signed) { s.Sign.Digest = 0 },
				func(s *api.Signed) { s.Sign.Digest = -1 },
				func(s *api.Signed) { s.Sign.Digest = math.MaxInt64 },
				func(s *api.Signed) { s.Sign = api.Sign{} },
			} {
				s := request.Clone(api.Batch{fresh})[0]
				change(&s)
				if same(s.Request, x) && s.Sign == fresh.Sign {
					t.Fatal("nothing is changed by", i)
				}
				if learnt && check(s.Request) == api.OK {
					u.Sum(form(s.Request))
				}
				valid(t, u, l, s, false)
			}
			valid(t, u, l, fresh, true)
		}
	}
}

// P8.3, P8.6: signatures of other keys, over other bytes, that the ledger does not know or another one has.
func TestValidOfOthers(t *testing.T) {
	u, l := ideal.NewTable(), ideal.NewLedger()
	x, y := ask(2, 7), ask(3, 7)
	s, o := seal(t, u, l, x), seal(t, u, l, y)
	for key := range api.MaxKeys { // all have signed it
		l.Sign(key, s.Sign.Digest)
	}
	for key := range api.MaxKeys {
		valid(t, u, l, api.Signed{Request: x, Sign: api.Sign{Key: key, Digest: s.Sign.Digest}}, key == 15)
	}
	l.Sign(15, o.Sign.Digest) // the client has signed other bytes too
	valid(t, u, l, api.Signed{Request: x, Sign: api.Sign{Key: 15, Digest: o.Sign.Digest}}, false)
	valid(t, u, l, api.Signed{Request: x, Sign: o.Sign}, false)
	valid(t, u, l, api.Signed{Request: y, Sign: s.Sign}, false)

	z := ask(2, 8)
	d := u.Sum(form(z))
	late := api.Signed{Request: z, Sign: api.Sign{Key: 15, Digest: d}}
	valid(t, u, l, late, false) // known, but signed by nobody
	other := l.Clone()
	if got := seal(t, u, other, z); got.Sign != late.Sign {
		t.Fatal(got)
	}
	valid(t, u, l, late, false)
	valid(t, u, other, late, true)
	valid(t, u, ideal.NewLedger(), s, false)

	v := ideal.NewTable() // a table that does not know it, and one that knows it by another number
	valid(t, v, l, s, false)
	v.Sum(form(y))
	valid(t, v, l, s, false)
	v.Sum(form(x))
	valid(t, v, l, s, false)
	valid(t, u, l, s, true)
}

// P8.3: a signature over a number that no bytes have, as a ledger signs any.
func TestValidOfNoBytes(t *testing.T) {
	u, l := ideal.NewTable(), ideal.NewLedger()
	x := ask(2, 7)
	for _, d := range []api.Digest{1, 2, math.MaxInt64} {
		g, _ := l.Sign(15, d)
		valid(t, u, l, api.Signed{Request: x, Sign: g}, false)
	}
	valid(t, u, l, api.Signed{Request: x}, false)
	valid(t, u, l, api.Signed{Request: x, Sign: api.Sign{Key: 15}}, false)
	valid(t, u, l, api.Signed{}, false)
	seal(t, u, l, x)
	valid(t, u, l, api.Signed{Request: x, Sign: api.Sign{Key: 15, Digest: 1}}, true)
	valid(t, u, l, api.Signed{Request: x, Sign: api.Sign{Key: 15, Digest: 2}}, false)
}

// P8.3, R5: tables and ledgers that no call made know nothing.
func TestValidOfNoCall(t *testing.T) {
	u, l := ideal.NewTable(), ideal.NewLedger()
	s := seal(t, u, l, ask(1, 1))
	for _, v := range tablesOfNoCall() {
		valid(t, v, l, s, false)
		for _, m := range ledgersOfNoCall() {
			valid(t, u, m, s, false)
			valid(t, v, m, s, false)
			valid(t, v, m, api.Signed{}, false)
		}
	}
}

// P8.3: ValidBatch, of batches all of which is valid, and others.
func TestValidBatch(t *testing.T) {
	u, l := ideal.NewTable(), ideal.NewLedger()
	var sealed api.Batch
	for i := range 5 {
		sealed = append(sealed, seal(t, u, l, ask(i, 1)))
	}
	for n := range 6 {
		b := request.Clone(sealed[:n])
		if got := request.ValidBatch(u, l, b); got != (n <= 4) {
			t.Errorf("ValidBatch of %d = %v", n, got)
		}
		for i := range b { // all but one
			b[i].Sign.Key--
			if request.ValidBatch(u, l, b) {
				t.Errorf("ValidBatch of %d, but for %d", n, i)
			}
			b[i].Sign.Key++
		}
		for i := range b { // none
			b[i].Request.Time = 2
		}
		if n > 0 && request.ValidBatch(u, l, b) {
			t.Errorf("ValidBatch(%+v)", b)
		}
	}
	if !request.ValidBatch(u, l, nil) || !request.ValidBatch(u, l, api.Batch{}) {
		t.Error("ValidBatch of the empty batch")
	}
	if !request.ValidBatch(nil, nil, nil) || !request.ValidBatch(&ideal.Table{}, &ideal.Ledger{}, nil) {
		t.Error("ValidBatch of the empty batch, all of which is valid, whatever the table")
	}
	if request.ValidBatch(u, l, api.Batch{sealed[0], sealed[1], sealed[0]}) { // each valid, but twice
		t.Error("ValidBatch of the same request twice")
	}
	again := seal(t, u, l, api.Request{Client: 0, Time: 1, Op: create("t")})
	if !request.Valid(u, l, again) || request.ValidBatch(u, l, api.Batch{sealed[0], again}) {
		t.Error("ValidBatch of two at one time")
	}
	if u.Len() != 6 || l.Len() != 6 {
		t.Errorf("%d texts, %d signatures", u.Len(), l.Len())
	}
}

// P8.3: Digest is the table's number of a batch's bytes.
func TestDigest(t *testing.T) {
	u := ideal.NewTable()
	for i, b := range []api.Batch{nil, batch(1), batch(2), batch(4), {signed(1, 1), signed(0, 1)}, {signed(0, 1), signed(1, 1)}} {
		want := api.Digest(i + 1)
		for range 2 {
			if d, e := request.Digest(u, b); d != want || e != api.OK {
				t.Errorf("Digest(%+v) = %d, %d, want %d", b, d, e, want)
			}
		}
		if text, _ := u.Open(want); !slices.Equal(text, batchForm(b)) {
			t.Errorf("Digest(%+v) asked for %v", b, text)
		}
	}
	if d, e := request.Digest(u, api.Batch{}); d != 1 || e != api.OK {
		t.Errorf("Digest of the empty batch: %d, %d", d, e)
	}
	v := ideal.NewTable() // over another table in another order
	if d, e := request.Digest(v, batch(2)); d != 1 || e != api.OK {
		t.Errorf("Digest: %d, %d", d, e)
	}
	if d, e := request.Digest(v, nil); d != 2 || e != api.OK {
		t.Errorf("Digest: %d, %d", d, e)
	}
}

// P8.3: Digest of what may not be, and with a table that no call made: the batch's error comes first, and nothing is learnt.
func TestDigestRefuses(t *testing.T) {
	u := ideal.NewTable()
	for _, b := range badBatches() {
		for _, v := range append(tablesOfNoCall(), u) {
			if d, e := request.Digest(v, b); d != 0 || e != checkBatch(b) {
				t.Errorf("Digest(%+v) = %d, %d, want %d", b, d, e, checkBatch(b))
			}
		}
	}
	for _, v := range tablesOfNoCall() {
		for _, b := range []api.Batch{nil, {}, batch(1), batch(4)} {
			if d, e := request.Digest(v, b); d != 0 || e != api.ErrMade {
				t.Errorf("Digest(%+v) = %d, %d, want ErrMade", b, d, e)
			}
		}
	}
	knows(t, u)
}

// R3: Seal neither writes to a request nor keeps it, and what it answers is nobody else's; Valid and Digest write to nothing.
func TestSealKeepsOff(t *testing.T) {
	fresh := func() api.Request { return api.Request{Client: 1, Time: 1, Op: publish("ab", "", "c")} }
	u, l := ideal.NewTable(), ideal.NewLedger()
	x := fresh()
	s, again := seal(t, u, l, x), seal(t, u, l, x)
	b := api.Batch{s, signed(2, 2)}
	request.Valid(u, l, s)
	request.ValidBatch(u, l, b)
	request.Digest(u, b)
	if !same(x, fresh()) || !same(s.Request, fresh()) || !sameBatch(b, api.Batch{{Request: fresh(), Sign: s.Sign}, signed(2, 2)}) {
		t.Errorf("what was handed in was written to: %+v, %+v", x, b)
	}
	scribbleOp(x.Op)
	if !same(s.Request, fresh()) {
		t.Errorf("what was sealed sees what is written: %+v", s)
	}
	scribble(b)
	if !same(again.Request, fresh()) {
		t.Errorf("what was sealed is somebody else's: %+v", again)
	}
	valid(t, u, l, again, true)
	if text, _ := u.Open(1); !slices.Equal(text, form(fresh())) {
		t.Errorf("the table sees what is written: %v", text)
	}
}

// THE BOUND: nothing that a table or a ledger holds is copied or gone through.
func TestSealNearLinear(t *testing.T) {
	u, l := ideal.NewTable(), ideal.NewLedger()
	for i := range 1 << 16 {
		u.Sum([]byte(strconv.Itoa(i)))
		l.Sign(i%api.MaxKeys, api.Digest(1+i))
	}
	x := ask(1, 1)
	s := seal(t, u, l, x) // room for what comes
	b := api.Batch{s}
	request.Digest(u, b)
	m := allocated(func() {
		for range 100 {
			seal(t, u, l, x)
			request.Digest(u, b)
			request.ValidBatch(u, l, b)
		}
	})
	if m > 1<<20 {
		t.Errorf("%d bytes of memory", m)
	}
}
