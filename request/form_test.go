package request_test

import (
	"bytes"
	"math"
	"slices"
	"strings"
	"testing"

	"bulla/api"
	"bulla/codec"
	"bulla/request"
)

// P8.2: a request's bytes, told one by one, there and back.
func TestForms(t *testing.T) {
	for _, x := range []struct {
		x api.Request
		b []byte
	}{
		{api.Request{Client: 2, Time: 7, Op: create("t")}, []byte{2, 7, 1, 1, 116}},
		{api.Request{Client: 0, Time: 1}, []byte{0, 1, 0}},
		{api.Request{Client: 7, Time: 300, Op: publish("\x09")}, []byte{7, 172, 2, 2, 1, 116, 1, 1, 9}},
		{api.Request{Client: 1, Time: 1 << 53, Op: api.Op{Kind: api.OpTrim, Topic: "t", Offset: 128}}, []byte{1, 128, 128, 128, 128, 128, 128, 128, 16, 4, 1, 116, 128, 1}},
		{api.Request{Client: 3, Time: 127, Op: api.Op{Kind: api.OpCommit, Topic: "t", Group: "gh", Offset: 5}}, []byte{3, 127, 3, 1, 116, 2, 103, 104, 5}},
	} {
		if b, e := request.Bytes(x.x); e != api.OK || !bytes.Equal(b, x.b) {
			t.Errorf("Bytes(%+v) = %v, %d, want %v", x.x, b, e, x.b)
		}
		if y, e := request.Parse(x.b); e != api.OK || !same(y, x.x) {
			t.Errorf("Parse(%v) = %+v, %d, want %+v", x.b, y, e, x.x)
		}
	}
}

// P8.2: Bytes of all requests, such as may be and others.
func TestBytesAll(t *testing.T) {
	for _, x := range all() {
		b, e := request.Bytes(x)
		if want := check(x); e != want || want != 0 && b != nil || want == 0 && !bytes.Equal(b, form(x)) {
			t.Fatalf("Bytes(%+v) = %v, %d, want the error %d", x, b, e, want)
		}
	}
}

// failed tells where Parse does not refuse bytes with an error, and with nothing beside it.
func failed(t *testing.T, b []byte, e api.Errno) {
	t.Helper()
	if x, f := request.Parse(b); f != e || !isZero(x) {
		t.Errorf("Parse(%v) = %+v, %d, want %d", b, x, f, e)
	}
}

// P8.2: bytes that are cut short at every place, and such with more behind them.
func TestParseCut(t *testing.T) {
	for i, x := range good() {
		if i%7 > 0 {
			continue
		}
		b := form(x)
		for n := range b {
			failed(t, b[:n], api.ErrCut)
		}
		failed(t, append(b, 0), api.ErrRest)
		failed(t, join(b, b), api.ErrRest)
	}
	failed(t, nil, api.ErrCut)
}

// P8.2: numbers above their most and of a form that is not the one form, what op.Take refuses, a Time of 0, and which of these is told.
func TestParseRefuses(t *testing.T) {
	most := codec.PutNum(nil, api.MaxNum+1)
	for _, x := range []struct {
		b []byte
		e api.Errno
	}{
		{[]byte{8, 1, 0}, api.ErrNum}, {[]byte{255, 1, 1, 0}, api.ErrNum}, {[]byte{13, 1, 0}, api.ErrNum}, // clients
		{[]byte{128, 0, 1, 0}, api.ErrNum}, {[]byte{130, 0, 1, 0}, api.ErrNum},
		{join(codec.PutNum(nil, math.MaxUint64), []byte{1, 0}), api.ErrNum}, {join(codec.PutNum(nil, 1<<32), []byte{1, 0}), api.ErrNum},
		{join([]byte{0}, most, []byte{0}), api.ErrNum}, {join([]byte{0}, codec.PutNum(nil, 1<<63), []byte{0}), api.ErrNum}, // times
		{join([]byte{0}, codec.PutNum(nil, math.MaxUint64), []byte{0}), api.ErrNum},
		{[]byte{0, 129, 0, 0}, api.ErrNum}, {[]byte{0, 128, 0, 0}, api.ErrNum},
		{[]byte{0, 1, 5}, api.ErrNum}, {[]byte{0, 1, 128, 0}, api.ErrNum}, // operations
		{[]byte{0, 1, 1, 0}, api.ErrName}, {[]byte{0, 1, 1, 1, '/'}, api.ErrName}, {[]byte{0, 1, 2, 1, 't', 0}, api.ErrRecord},
		{join([]byte{0, 1, 4, 1, 't'}, most), api.ErrNum},

		{[]byte{2, 0, 0}, api.ErrRequest}, {[]byte{0, 0, 1, 1, 't'}, api.ErrRequest}, {[]byte{7, 0, 2, 1, 't', 1, 0}, api.ErrRequest},

		{[]byte{2, 0}, api.ErrCut}, {[]byte{2, 0, 1}, api.ErrCut}, {[]byte{2, 0, 0, 0}, api.ErrRest}, // behind the reader's errors comes that of the Time
		{[]byte{2, 0, 5}, api.ErrNum}, {[]byte{2, 0, 1, 0}, api.ErrName}, {[]byte{2, 0, 2, 1, 't', 0}, api.ErrRecord}, {[]byte{8, 0, 0}, api.ErrNum},
		{[]byte{8}, api.ErrNum}, {join([]byte{0}, most), api.ErrNum}, {[]byte{0, 1, 1, 0, 9}, api.ErrName},
	} {
		failed(t, x.b, x.e)
	}
}

// P8.2: PutSign and TakeSign of all signatures, such as may be and others.
func TestSigns(t *testing.T) {
	ahead := []byte{1, 200, 3}
	for _, s := range signs() {
		var want []byte
		if checkSign(s) == 0 {
			want = signForm(s)
		}
		if b := request.PutSign(nil, s); !bytes.Equal(b, want) {
			t.Errorf("PutSign(nil, %+v) = %v, want %v", s, b, want)
		}
		if b := request.PutSign(ahead, s); !bytes.Equal(b, join(ahead, want)) {
			t.Errorf("PutSign(.., %+v) = %v", s, b)
		}
		if want == nil {
			continue
		}
		r := codec.Read(join(want, []byte{5, 200}))
		if x := request.TakeSign(r); x != s || r.Left() != 2 || r.Err() != api.OK {
			t.Errorf("TakeSign of %v: %+v, %d", want, x, r.Err())
		}
		for n := range want {
			failedSign(t, want[:n], api.ErrCut)
		}
	}
	if b := request.PutSign(nil, api.Sign{Key: 15, Digest: 300}); !bytes.Equal(b, []byte{15, 172, 2}) {
		t.Errorf("PutSign: %v", b)
	}
	if b := request.PutSign(nil, api.Sign{Digest: 1 << 53}); !bytes.Equal(b, []byte{0, 128, 128, 128, 128, 128, 128, 128, 16}) {
		t.Errorf("PutSign: %v", b)
	}
}

// failedSign tells where TakeSign does not fail with an error, leaving nothing.
func failedSign(t *testing.T, b []byte, e api.Errno) {
	t.Helper()
	r := codec.Read(b)
	if s := request.TakeSign(r); s != (api.Sign{}) || r.Err() != e || r.Left() != 0 {
		t.Errorf("TakeSign of %v: %+v, %d, want %d", b, s, r.Err(), e)
	}
}

// P8.2: what TakeSign refuses, and which error is told.
func TestTakeSignRefuses(t *testing.T) {
	for _, x := range []struct {
		b []byte
		e api.Errno
	}{
		{nil, api.ErrCut}, {[]byte{128}, api.ErrCut}, {[]byte{20}, api.ErrCut}, {[]byte{0, 128}, api.ErrCut},
		{[]byte{21, 1}, api.ErrNum}, {[]byte{128, 0, 1}, api.ErrNum}, {[]byte{143, 0, 1}, api.ErrNum}, {join(codec.PutNum(nil, 1<<32), []byte{1}), api.ErrNum}, {[]byte{21}, api.ErrNum},
		{join([]byte{0}, codec.PutNum(nil, 1<<53+1)), api.ErrNum}, {join([]byte{0}, codec.PutNum(nil, 1<<63)), api.ErrNum}, {join([]byte{0}, codec.PutNum(nil, math.MaxUint64)), api.ErrNum},
		{[]byte{0, 128, 0}, api.ErrNum}, {[]byte{0, 129, 0}, api.ErrNum},
		{[]byte{0, 0}, api.ErrSign}, {[]byte{20, 0}, api.ErrSign}, {[]byte{15, 0, 1, 2}, api.ErrSign},
		{[]byte{21, 0}, api.ErrNum},
	} {
		failedSign(t, x.b, x.e)
	}
}

// P8.2: a batch's bytes, told one by one.
func TestBatchForms(t *testing.T) {
	x := api.Request{Client: 2, Time: 7, Op: create("t")}
	for _, c := range []struct {
		l api.Batch
		b []byte
	}{
		{nil, []byte{0}},
		{api.Batch{}, []byte{0}},
		{api.Batch{{Request: x, Sign: api.Sign{Key: 15, Digest: 1}}}, []byte{1, 5, 2, 7, 1, 1, 116, 15, 1}},
		{api.Batch{{Request: x, Sign: api.Sign{Key: 0, Digest: 300}}, {Request: api.Request{Client: 0, Time: 128}, Sign: api.Sign{Key: 20, Digest: 5}}},
			[]byte{2, 5, 2, 7, 1, 1, 116, 0, 172, 2, 4, 0, 128, 1, 0, 20, 5}},
	} {
		if b := request.PutBatch(nil, c.l); !bytes.Equal(b, c.b) {
			t.Errorf("PutBatch(nil, %+v) = %v, want %v", c.l, b, c.b)
		}
		if b := request.PutBatch([]byte{7, 128}, c.l); !bytes.Equal(b, join([]byte{7, 128}, c.b)) {
			t.Errorf("PutBatch(.., %+v) = %v", c.l, b)
		}
		r := codec.Read(join(c.b, []byte{9}))
		if l := request.TakeBatch(r); !sameBatch(l, c.l) || r.Left() != 1 || r.Err() != api.OK {
			t.Errorf("TakeBatch of %v: %+v, %d", c.b, l, r.Err())
		}
	}
}

// P8.2: of a batch that may not be, nothing is put.
func TestPutBatchRefuses(t *testing.T) {
	for _, l := range badBatches() {
		if b := request.PutBatch([]byte{1, 2}, l); !bytes.Equal(b, []byte{1, 2}) {
			t.Errorf("PutBatch of %+v: %v", l, b)
		}
		if b := request.PutBatch(nil, l); len(b) != 0 {
			t.Errorf("PutBatch of %+v: %v", l, b)
		}
	}
}

// failedBatch tells where TakeBatch does not fail with an error, leaving nothing.
func failedBatch(t *testing.T, b []byte, e api.Errno) {
	t.Helper()
	r := codec.Read(b)
	if l := request.TakeBatch(r); len(l) != 0 || r.Err() != e || r.Left() != 0 || r.Done() != e {
		t.Errorf("TakeBatch of %v: %+v, %d, want %d", b, l, r.Err(), e)
	}
}

// P8.2: batches that are cut short at every place.
func TestTakeBatchCut(t *testing.T) {
	for _, l := range goodBatches()[:300] {
		b := batchForm(l)
		for n := range b {
			failedBatch(t, b[:n], api.ErrCut)
		}
	}
}

// part is a request's place in a batch's form: these bytes as a byte string, and a signature.
func part(b []byte, sign ...byte) []byte {
	return append(text(nil, b), sign...)
}

// P8.2: what TakeBatch refuses, and which error is told.
func TestTakeBatchRefuses(t *testing.T) {
	x := form(ask(1, 1))
	good := part(x, 14, 1)
	zeros := make([]byte, 1<<10+1)
	for _, c := range []struct {
		b []byte
		e api.Errno
	}{
		{[]byte{5}, api.ErrNum}, {join([]byte{5}, bytes.Repeat(good, 5)), api.ErrNum}, {[]byte{128, 0}, api.ErrNum}, {join([]byte{129, 0}, good), api.ErrNum}, // how many
		{codec.PutNum(nil, math.MaxUint64), api.ErrNum}, {[]byte{255}, api.ErrCut},

		{join([]byte{1}, part(zeros[:1<<10], 14, 1)), api.ErrRest}, // a Time of 0, but bytes that are left come first
		{join([]byte{1}, part(zeros, 14, 1)), api.ErrNum},
		{join([]byte{1}, part(join(x, zeros)[:1<<10], 14, 1)), api.ErrRest},
		{join([]byte{1}, part(join(x, zeros)[:1<<10+1], 14, 1)), api.ErrNum},
		{join([]byte{1}, codec.PutNum(nil, 1<<10)), api.ErrCut},
		{join([]byte{1}, codec.PutNum(nil, 1<<10+1)), api.ErrNum},
		{join([]byte{1}, codec.PutNum(nil, math.MaxUint64)), api.ErrNum},

		{join([]byte{1}, part(nil, 14, 1)), api.ErrCut}, // byte strings that are no requests
		{join([]byte{1}, part(x[:len(x)-1], 14, 1)), api.ErrCut},
		{join([]byte{1}, part([]byte{8, 1, 0}, 14, 1)), api.ErrNum},
		{join([]byte{1}, part([]byte{0, 1, 1, 1, '/'}, 14, 1)), api.ErrName},
		{join([]byte{1}, part([]byte{0, 1, 2, 1, 't', 0}, 14, 1)), api.ErrRecord},
		{join([]byte{1}, part([]byte{2, 0, 0}, 14, 1)), api.ErrRequest},

		{join([]byte{1}, part(x, 14, 0)), api.ErrSign}, // signatures
		{join([]byte{1}, part(x, 21, 1)), api.ErrNum},
		{join([]byte{1}, part(x, 14)), api.ErrCut},
		{join([]byte{1}, part(x, 142, 0, 1)), api.ErrNum},

		{join([]byte{2}, good, good), api.ErrTwice}, // what CheckBatch refuses of the whole
		{join([]byte{2}, good, part(form(api.Request{Client: 1, Time: 1, Op: create("u")}), 3, 7)), api.ErrTwice},
		{join([]byte{4}, good, part(form(ask(2, 1)), 14, 1), part(form(ask(3, 1)), 14, 1), good), api.ErrTwice},

		{join([]byte{1}, part([]byte{2, 0, 0}, 14, 0)), api.ErrRequest}, // the first one, from the left
		{join([]byte{1}, part([]byte{2, 0, 0}, 21)), api.ErrRequest},
		{join([]byte{1}, part([]byte{2, 0, 0})), api.ErrRequest},
		{join([]byte{2}, part(x, 14, 0), part([]byte{2, 0, 0}, 14, 1)), api.ErrSign},
		{join([]byte{2}, part([]byte{2, 0, 0}, 14, 1), part(x, 14, 0)), api.ErrRequest},
		{join([]byte{3}, good, good, part(x, 14, 0)), api.ErrSign},
		{join([]byte{3}, good, good, part(x, 14)), api.ErrCut},
		{join([]byte{3}, good, good), api.ErrCut},
		{join([]byte{4}, good), api.ErrCut},
	} {
		failedBatch(t, c.b, c.e)
	}
}

// P8.2: readers that have an error already, or that no call made, keep it and give nothing.
func TestTakeOfError(t *testing.T) {
	for e, l := range readersOfError([]byte{1, 5, 2, 7, 1, 1, 116, 15, 1}) {
		for _, r := range l {
			if l := request.TakeBatch(r); len(l) != 0 || r.Err() != e {
				t.Errorf("TakeBatch of a reader with the error %d: %+v, %d", e, l, r.Err())
			}
		}
	}
	for e, l := range readersOfError([]byte{15, 1}) {
		for _, r := range l {
			if s := request.TakeSign(r); s != (api.Sign{}) || r.Err() != e {
				t.Errorf("TakeSign of a reader with the error %d: %+v, %d", e, s, r.Err())
			}
		}
	}
}

// P8.2: the empty batch is one, also where the reader ends behind it; with an error it is nothing.
func TestTakeEmpty(t *testing.T) {
	r := codec.Read([]byte{0})
	if l := request.TakeBatch(r); len(l) != 0 || r.Done() != api.OK {
		t.Errorf("TakeBatch: %+v, %d", l, r.Done())
	}
	failedBatch(t, nil, api.ErrCut)
}

// P8.2: batches and signatures one behind the other, from one reader.
func TestTakeMany(t *testing.T) {
	var b []byte
	l := goodBatches()[:200]
	g := goodSigns()
	for i, x := range l {
		b = request.PutSign(request.PutBatch(b, x), g[i%len(g)])
	}
	r := codec.Read(b)
	for i, x := range l {
		if y := request.TakeBatch(r); !sameBatch(y, x) {
			t.Errorf("TakeBatch: %+v, want %+v", y, x)
		}
		if s := request.TakeSign(r); s != g[i%len(g)] {
			t.Errorf("TakeSign: %+v, want %+v", s, g[i%len(g)])
		}
	}
	if r.Done() != api.OK {
		t.Error(r.Done())
	}
}

// THE BOUND: b is copied once or twice, not anew for each part; what a reader has is not copied for each request.
func TestFormsNearLinear(t *testing.T) {
	ahead := make([]byte, 1<<20)
	l := goodBatches()[5]
	var got []byte
	if m := allocated(func() { got = request.PutBatch(ahead, l) }); len(got) != len(ahead)+len(batchForm(l)) || m > 2<<20 {
		t.Errorf("PutBatch: %d bytes, with %d bytes of memory", len(got), m)
	}
	if m := allocated(func() { got = request.PutSign(ahead, api.Sign{Key: 1, Digest: 1}) }); len(got) != len(ahead)+2 || m > 2<<20 {
		t.Errorf("PutSign: %d bytes, with %d bytes of memory", len(got), m)
	}
	r := codec.Read(slices.Concat(batchForm(l), ahead))
	if m := allocated(func() { l = request.TakeBatch(r) }); len(l) != 4 || m > 1<<16 {
		t.Errorf("TakeBatch: %d bytes of memory", m)
	}
	if m := allocated(func() { request.Parse(ahead) }); m > 3<<20 {
		t.Errorf("Parse: %d bytes of memory", m)
	}
}

// R3: neither b nor what stands behind it is written to, and the answers are nobody else's.
func TestPutKeepsOff(t *testing.T) {
	owned := strings.Repeat("r", 4000)
	puts := []func(b []byte) []byte{
		func(b []byte) []byte { return request.PutBatch(b, nil) },
		func(b []byte) []byte { return request.PutBatch(b, batch(4)) },
		func(b []byte) []byte { return request.PutBatch(b, batch(5)) },
		func(b []byte) []byte { return request.PutSign(b, api.Sign{Key: 1, Digest: 300}) },
		func(b []byte) []byte { return request.PutSign(b, api.Sign{}) },
	}
	for i, put := range puts {
		for _, n := range []int{0, 4, len(owned)} {
			room := []byte(owned)
			b := put(room[:n])
			if string(room) != owned {
				t.Errorf("%d: what was handed in was written to", i)
			}
			first := bytes.Clone(b)
			clear(room)
			if !bytes.Equal(b, first) {
				t.Errorf("%d: what was answered is what the caller owns", i)
			}
			scribbleBytes(b)
			if !bytes.Equal(room, make([]byte, len(owned))) {
				t.Errorf("%d: what was answered is what the caller owns", i)
			}
		}
	}
}

// R3: what is put and read is not written to, nor kept; what was read is nobody else's, and no two records share memory.
func TestTakeKeepsOff(t *testing.T) {
	x := api.Request{Client: 3, Time: 9, Op: publish("ab", "", "c", "d")}
	l := api.Batch{{Request: x, Sign: api.Sign{Key: 1, Digest: 2}}, signed(1, 1)}
	b, c := form(x), batchForm(l)
	r, s := codec.Read(c), codec.Read(c)
	y, _ := request.Parse(b)
	z, _ := request.Parse(b)
	m, n := request.TakeBatch(r), request.TakeBatch(s)
	if !bytes.Equal(b, form(x)) || !bytes.Equal(c, batchForm(l)) {
		t.Error("what was handed in was written to")
	}
	clear(b)
	clear(c)
	scribbleOp(y.Op)
	scribble(m)
	for _, o := range []api.Op{z.Op, n[0].Request.Op, n[1].Request.Op} {
		for i := range o.Records {
			_ = append(o.Records[i], 7, 7, 7, 7) // must not run into the next record
		}
	}
	if !same(z, x) || !sameBatch(n, l) {
		t.Errorf("what was read is somebody else's: %+v, %+v", z, n)
	}
	b, _ = request.Bytes(x)
	c = request.PutBatch(nil, l)
	scribbleOp(x.Op)
	scribble(l)
	if !bytes.Equal(b, form(z)) || !bytes.Equal(c, batchForm(n)) {
		t.Error("bytes see what is written to what they were made of")
	}
	scribbleBytes(b)
	scribbleBytes(c)
	if !same(z, api.Request{Client: 3, Time: 9, Op: publish("ab", "", "c", "d")}) {
		t.Errorf("what was read sees what is written to bytes: %+v", z)
	}
}
