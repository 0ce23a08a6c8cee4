package request_test

import (
	"math"
	"math/rand"
	"slices"
	"strings"
	"testing"

	"bulla/api"
	"bulla/request"
)

// P8.1: Key.
func TestKey(t *testing.T) {
	for _, x := range []struct{ client, key int }{
		{0, 13}, {1, 14}, {2, 15}, {6, 19}, {7, api.MaxKeys - 1},
		{-1, -1}, {8, -1}, {9, -1}, {20, -1}, {-13, -1}, {math.MinInt, -1}, {math.MaxInt, -1},
	} {
		if k := request.Key(x.client); k != x.key {
			t.Errorf("Key(%d) = %d, want %d", x.client, k, x.key)
		}
	}
}

// P8.1: which requests may be, and each error.
func TestCheck(t *testing.T) {
	for _, x := range []struct {
		x api.Request
		e api.Errno
	}{
		{api.Request{Client: 0, Time: 1}, api.OK},
		{api.Request{Client: 7, Time: 1}, api.OK},
		{api.Request{Client: 2, Time: 7, Op: create("t")}, api.OK},
		{api.Request{Client: 0, Time: 1 << 53}, api.OK},
		{api.Request{Client: 0, Time: 1, Op: api.Op{Records: []api.Record{}}}, api.OK},

		{api.Request{}, api.ErrRequest},
		{api.Request{Client: -1, Time: 1}, api.ErrRequest},
		{api.Request{Client: 8, Time: 1}, api.ErrRequest},
		{api.Request{Client: math.MinInt, Time: 1}, api.ErrRequest},
		{api.Request{Client: math.MaxInt, Time: 1}, api.ErrRequest},
		{api.Request{Client: 256, Time: 1}, api.ErrRequest},
		{api.Request{Client: 0, Time: 0}, api.ErrRequest},
		{api.Request{Client: 0, Time: -1}, api.ErrRequest},
		{api.Request{Client: 0, Time: 1<<53 + 1}, api.ErrRequest},
		{api.Request{Client: 0, Time: math.MinInt64}, api.ErrRequest},
		{api.Request{Client: 0, Time: math.MaxInt64}, api.ErrRequest},

		{api.Request{Client: 0, Time: 1, Op: api.Op{Kind: 5}}, api.ErrOp},
		{api.Request{Client: 0, Time: 1, Op: api.Op{Kind: api.OpTrim, Topic: "t", Offset: -1}}, api.ErrOp},
		{api.Request{Client: 0, Time: 1, Op: create("a/b")}, api.ErrName},
		{api.Request{Client: 0, Time: 1, Op: publish()}, api.ErrRecord},

		{api.Request{Client: 8, Time: 1, Op: api.Op{Kind: 5}}, api.ErrRequest}, // what comes first
		{api.Request{Client: 0, Time: 0, Op: create("")}, api.ErrRequest},
		{api.Request{Client: -1, Time: 0, Op: publish()}, api.ErrRequest},
	} {
		if e := request.Check(x.x); e != x.e {
			t.Errorf("Check(%+v) = %d, want %d", x.x, e, x.e)
		}
	}
	for _, x := range all() {
		if e := request.Check(x); e != check(x) {
			t.Fatalf("Check(%+v) = %d, want %d", x, e, check(x))
		}
	}
}

// P8.1: which signatures may be.
func TestCheckSign(t *testing.T) {
	for _, x := range []struct {
		s api.Sign
		e api.Errno
	}{
		{api.Sign{Key: 0, Digest: 1}, api.OK},
		{api.Sign{Key: api.MaxKeys - 1, Digest: 1}, api.OK},
		{api.Sign{Key: 15, Digest: api.MaxNum}, api.OK},
		{api.Sign{}, api.ErrSign},
		{api.Sign{Key: -1, Digest: 1}, api.ErrSign},
		{api.Sign{Key: api.MaxKeys, Digest: 1}, api.ErrSign},
		{api.Sign{Key: 0, Digest: 0}, api.ErrSign},
		{api.Sign{Key: 0, Digest: -1}, api.ErrSign},
		{api.Sign{Key: 0, Digest: api.MaxNum + 1}, api.ErrSign},
		{api.Sign{Key: -1, Digest: 0}, api.ErrSign},
	} {
		if e := request.CheckSign(x.s); e != x.e {
			t.Errorf("CheckSign(%+v) = %d, want %d", x.s, e, x.e)
		}
	}
	for _, s := range signs() {
		if e := request.CheckSign(s); e != checkSign(s) {
			t.Errorf("CheckSign(%+v) = %d, want %d", s, e, checkSign(s))
		}
	}
}

// of is a batch with one of its requests changed.
func of(l api.Batch, i int, change func(s *api.Signed)) api.Batch {
	change(&l[i])
	return l
}

func badRequest(s *api.Signed) { s.Request.Client = 8 }
func badTime(s *api.Signed)    { s.Request.Time = 0 }
func badOp(s *api.Signed)      { s.Request.Op.Kind = 5 }
func badName(s *api.Signed)    { s.Request.Op.Topic = "" }
func badSign(s *api.Signed)    { s.Sign.Digest = 0 }

func badBoth(s *api.Signed) {
	badSign(s)
	badOp(s)
}

// P8.1: which batches may be, and each error; where several would do, the first one.
func TestCheckBatch(t *testing.T) {
	for i, x := range []struct {
		l api.Batch
		e api.Errno
	}{
		{nil, api.OK},
		{api.Batch{}, api.OK},
		{batch(1), api.OK},
		{batch(4), api.OK},
		{batch(5), api.ErrLong},
		{batch(6), api.ErrLong},

		{of(batch(1), 0, badRequest), api.ErrRequest},
		{of(batch(4), 3, badTime), api.ErrRequest},
		{of(batch(4), 3, badOp), api.ErrOp},
		{of(batch(4), 1, badName), api.ErrName},
		{of(batch(4), 2, func(s *api.Signed) { s.Request.Op.Records = nil }), api.ErrRecord},
		{of(batch(1), 0, badSign), api.ErrSign},
		{of(batch(4), 3, badSign), api.ErrSign},
		{of(batch(4), 3, func(s *api.Signed) { s.Sign.Key = api.MaxKeys }), api.ErrSign},
		{of(batch(2), 1, func(s *api.Signed) { s.Sign = signed(0, 1).Sign }), api.OK}, // whose it is, is not asked

		{api.Batch{signed(1, 1), signed(1, 1)}, api.ErrTwice},
		{api.Batch{signed(1, 1), signed(2, 1), signed(3, 1), signed(1, 1)}, api.ErrTwice},
		{api.Batch{signed(1, 1), signed(2, 1), signed(2, 1), signed(3, 1)}, api.ErrTwice},
		{api.Batch{signed(0, 1), signed(1, 1), signed(2, 9), signed(2, 9)}, api.ErrTwice},
		{api.Batch{signed(0, 1), signed(2, 9), signed(1, 1), signed(2, 9)}, api.ErrTwice},
		{of(api.Batch{signed(1, 1), signed(1, 1)}, 1, func(s *api.Signed) { s.Request.Op, s.Sign.Digest = create("t"), 99 }), api.ErrTwice},
		{api.Batch{signed(1, 1), signed(1, 2), signed(1, 3), signed(1, 4)}, api.OK},
		{api.Batch{signed(1, 4), signed(1, 2), signed(1, 3), signed(1, 1)}, api.OK}, // in any order
		{api.Batch{signed(4, 1), signed(1, 1), signed(2, 1), signed(3, 1)}, api.OK},
		{api.Batch{signed(1, 2), signed(2, 1)}, api.OK},

		{of(of(batch(2), 0, badRequest), 1, badSign), api.ErrRequest}, // a bad request ahead of a bad signature
		{of(of(batch(2), 0, badSign), 1, badRequest), api.ErrSign},    // and the other way round
		{of(of(batch(4), 1, badSign), 2, badOp), api.ErrSign},
		{of(of(batch(4), 1, badOp), 2, badTime), api.ErrOp},
		{of(of(batch(4), 2, badTime), 3, badOp), api.ErrRequest},
		{of(batch(3), 2, badBoth), api.ErrOp}, // of one, its request first
		{of(api.Batch{signed(1, 1), signed(1, 1), signed(1, 2)}, 2, badSign), api.ErrSign},
		{of(api.Batch{signed(1, 1), signed(1, 1), signed(1, 2)}, 2, badOp), api.ErrOp},
		{api.Batch{{}, {}}, api.ErrRequest},
		{of(batch(5), 0, badRequest), api.ErrLong},
		{of(batch(5), 0, badSign), api.ErrLong},
		{append(batch(4), signed(0, 1)), api.ErrLong},
		{make(api.Batch, 5), api.ErrLong},
	} {
		if e := request.CheckBatch(x.l); e != x.e {
			t.Errorf("%d: CheckBatch(%+v) = %d, want %d", i, x.l, e, x.e)
		}
	}
}

// P8.1: ErrTwice at each two places, and at no other ones.
func TestTwice(t *testing.T) {
	for n := range 5 {
		for i := range n {
			for j := range i {
				for _, a := range [][2]int64{{4, 1}, {7, 1 << 53}, {5, 3}} {
					l := batch(n)
					l[i] = signed(int(a[0]), a[1])
					l[j] = signed(int(a[0]), a[1])
					if e := request.CheckBatch(l); e != api.ErrTwice {
						t.Errorf("the same at %d and %d of %d: %d", j, i, n, e)
					}
					l[i].Request.Time = 1000
					if e := request.CheckBatch(l); e != api.OK {
						t.Errorf("another time at %d of %d: %d", i, n, e)
					}
				}
			}
		}
	}
}

// P8.1: batches by chance.
func TestCheckBatchAny(t *testing.T) {
	dice := rand.New(rand.NewSource(5))
	for range 30000 {
		l := anyBatch(dice)
		if e := request.CheckBatch(l); e != checkBatch(l) {
			t.Fatalf("CheckBatch(%+v) = %d, want %d", l, e, checkBatch(l))
		}
	}
	for _, l := range slices.Concat(goodBatches(), badBatches()) {
		if e := request.CheckBatch(l); e != checkBatch(l) {
			t.Fatalf("CheckBatch(%+v) = %d, want %d", l, e, checkBatch(l))
		}
	}
}

// R1, THE BOUND: what is great is refused without a long look.
func TestCheckGreat(t *testing.T) {
	l := slices.Repeat(batch(4), 1<<16)
	long := api.Request{Client: 1, Time: 1, Op: create(strings.Repeat("x", 1<<22))}
	many := api.Request{Client: 1, Time: 1, Op: api.Op{Kind: api.OpPublish, Topic: "t", Records: make([]api.Record, 1<<20)}}
	m := allocated(func() {
		if e := request.CheckBatch(l); e != api.ErrLong {
			t.Error(e)
		}
		if e := request.Check(long); e != api.ErrName {
			t.Error(e)
		}
		if e := request.Check(many); e != api.ErrRecord {
			t.Error(e)
		}
		if b := request.PutBatch(nil, l); len(b) != 0 {
			t.Error(len(b))
		}
	})
	if m > 1<<16 {
		t.Errorf("%d bytes of memory", m)
	}
}
