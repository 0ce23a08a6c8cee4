package request_test

import (
	"testing"

	"bulla/api"
	"bulla/request"
)

// changes are such as make another batch of one of two requests, by one field each.
func changes() []func(s *api.Signed) {
	return []func(s *api.Signed){
		func(s *api.Signed) { s.Request.Client++ },
		func(s *api.Signed) { s.Request.Client = -1 },
		func(s *api.Signed) { s.Request.Client += 1 << 32 },
		func(s *api.Signed) { s.Request.Time++ },
		func(s *api.Signed) { s.Request.Time = 0 },
		func(s *api.Signed) { s.Request.Time += 1 << 40 },
		func(s *api.Signed) { s.Request.Op.Kind = 5 },
		func(s *api.Signed) { s.Request.Op.Topic += "x" },
		func(s *api.Signed) { s.Request.Op.Topic = "" },
		func(s *api.Signed) { s.Request.Op.Group = "t" },
		func(s *api.Signed) { s.Request.Op.Offset = 1 },
		func(s *api.Signed) { s.Request.Op.Records = nil },
		func(s *api.Signed) { s.Request.Op.Records = s.Request.Op.Records[:1] },
		func(s *api.Signed) { s.Request.Op.Records = append(s.Request.Op.Records, nil) },
		func(s *api.Signed) { s.Request.Op.Records[1] = api.Record{0} },
		func(s *api.Signed) { s.Request.Op.Records[1] = s.Request.Op.Records[1][:0] },
		func(s *api.Signed) { s.Sign.Key++ },
		func(s *api.Signed) { s.Sign.Key = -1 },
		func(s *api.Signed) { s.Sign.Digest++ },
		func(s *api.Signed) { s.Sign.Digest += 1 << 40 },
		func(s *api.Signed) { s.Sign.Key, s.Sign.Digest = int(s.Sign.Digest), api.Digest(s.Sign.Key) },
		func(s *api.Signed) { s.Sign = api.Sign{} },
	}
}

// P8.4: Same is field by field, with a difference in each one alone, also of batches that may not be.
func TestSame(t *testing.T) {
	for i, change := range changes() {
		for n := 1; n < 7; n++ {
			for at := range n {
				a, b := batch(n), batch(n)
				if !request.Same(a, b) || !request.Same(a, a) {
					t.Fatalf("Same of %d = false", n)
				}
				change(&b[at])
				if request.Same(a, b) || request.Same(b, a) {
					t.Errorf("Same of %d with the change %d at %d", n, i, at)
				}
				change(&a[at])
				if !request.Same(a, b) {
					t.Errorf("Same of %d with the change %d at %d in both: false", n, i, at)
				}
			}
		}
	}
}

// P8.4: a batch is not the same as its beginning, nor in another order.
func TestSameOfOthers(t *testing.T) {
	for i := range 7 {
		for j := range 7 {
			if request.Same(batch(i), batch(j)) != (i == j) {
				t.Errorf("Same of %d and %d", i, j)
			}
		}
	}
	x, y := signed(1, 1), signed(2, 2)
	if request.Same(api.Batch{x, y}, api.Batch{y, x}) || request.Same(api.Batch{x, x}, api.Batch{x, y}) || request.Same(api.Batch{x}, api.Batch{x, x}) {
		t.Error("Same of another order")
	}
	if request.Same(nil, api.Batch{{}}) || request.Same(api.Batch{{}}, nil) {
		t.Error("Same of nothing and of a zero request")
	}
}

// P8.4, R4: lists that are empty are the same as nil.
func TestSameOfNone(t *testing.T) {
	with := func(l []api.Record) api.Batch {
		return api.Batch{{Request: api.Request{Op: api.Op{Records: l}}}}
	}
	for _, x := range [][2]api.Batch{
		{nil, {}}, {nil, nil}, {with(nil), with([]api.Record{})}, {with([]api.Record{nil}), with([]api.Record{{}})},
	} {
		if !request.Same(x[0], x[1]) || !request.Same(x[1], x[0]) {
			t.Errorf("Same(%+v, %+v) = false", x[0], x[1])
		}
	}
	if request.Same(with(nil), with([]api.Record{nil})) {
		t.Error("no record is one of no bytes")
	}
}

// P8.4: a clone is the same, also of a batch that may not be.
func TestClone(t *testing.T) {
	for _, l := range append(goodBatches(), badBatches()...) {
		if c := request.Clone(l); !sameBatch(c, l) || !request.Same(c, l) {
			t.Fatalf("Clone(%+v) = %+v", l, c)
		}
	}
}

// P8.4, R3: what is written to a clone is not seen in what it was cloned from, nor the other way round.
func TestCloneWrittenTo(t *testing.T) {
	for n := range 7 {
		l := batch(n)
		c := request.Clone(l)
		if !sameBatch(l, batch(n)) {
			t.Error("Clone wrote to what was handed in")
		}
		scribble(c)
		if !sameBatch(l, batch(n)) {
			t.Errorf("what is written to a clone is seen: %+v", l)
		}
		c = request.Clone(l)
		scribble(l)
		if !sameBatch(c, batch(n)) {
			t.Errorf("a clone sees what is written: %+v", c)
		}
	}
	long := batch(4)
	c := request.Clone(long[:2])
	_ = append(c, api.Signed{})
	c = request.Clone(long[:0])
	_ = append(c, api.Signed{})
	if !sameBatch(long, batch(4)) {
		t.Error("a clone runs into what it was cloned from")
	}
	one := []byte{1, 2, 3, 4}
	c = request.Clone(api.Batch{{Request: api.Request{Op: api.Op{Records: []api.Record{one[:2], one[1:3]}}}}}) // records in one memory
	o := c[0].Request.Op
	o.Records[0][1] = 9
	_ = append(o.Records[0], 9, 9)
	if string(o.Records[1]) != "\x02\x03" || string(one) != "\x01\x02\x03\x04" {
		t.Errorf("a clone's records share memory: %v", o)
	}
}

// R3: nothing that is asked of a batch writes to it.
func TestAsksKeepOff(t *testing.T) {
	for n := range 7 {
		a, b := batch(n), batch(n)
		request.CheckBatch(a)
		request.Same(a, b)
		request.PutBatch(nil, a)
		for _, s := range a {
			request.Check(s.Request)
			request.Bytes(s.Request)
			request.CheckSign(s.Sign)
		}
		if !sameBatch(a, batch(n)) || !sameBatch(b, batch(n)) {
			t.Errorf("what was asked was written to: %+v", a)
		}
	}
}
