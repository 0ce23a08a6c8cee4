package request_test

import (
	"bytes"
	"math/rand"
	"slices"
	"testing"

	"bulla/api"
	"bulla/codec"
	"bulla/ideal"
	"bulla/request"
)

// P8.5: Parse of Bytes is the request.
func TestThereAndBack(t *testing.T) {
	for _, x := range good() {
		b, e := request.Bytes(x)
		if e != api.OK {
			t.Fatalf("Bytes(%+v): %d", x, e)
		}
		if y, e := request.Parse(b); e != api.OK || !same(y, x) {
			t.Fatalf("Parse(%v) = %+v, %d, want %+v", b, y, e, x)
		}
	}
}

// P8.5: what is put is taken, whatever stands ahead of it and behind it.
func TestBatchThereAndBack(t *testing.T) {
	dice := rand.New(rand.NewSource(6))
	for _, l := range goodBatches() {
		ahead, more := make([]byte, dice.Intn(4)), make([]byte, dice.Intn(9))
		dice.Read(ahead)
		dice.Read(more)
		b := request.PutBatch(ahead, l)
		if !bytes.Equal(b, join(ahead, batchForm(l))) {
			t.Fatalf("PutBatch(.., %+v) = %v", l, b)
		}
		r := codec.Read(join(b, more))
		r.Take(len(ahead))
		if x := request.TakeBatch(r); !sameBatch(x, l) || !bytes.Equal(r.Take(r.Left()), more) || r.Done() != api.OK {
			t.Fatalf("TakeBatch of %v: %+v, %d, want %+v", b, x, r.Err(), l)
		}
	}
}

// takenRequest tells where Parse takes a text that is not the bytes of what it says, or refuses one with more than an error.
func takenRequest(t *testing.T, b []byte) bool {
	t.Helper()
	first := bytes.Clone(b)
	x, e := request.Parse(b)
	if !bytes.Equal(b, first) {
		t.Fatalf("Parse wrote to %v", first)
	}
	if e != api.OK {
		if !isZero(x) {
			t.Fatalf("Parse(%v) = %+v, %d", b, x, e)
		}
		return false
	}
	if check(x) != api.OK || !bytes.Equal(form(x), b) {
		t.Fatalf("Parse(%v) = %+v, of the bytes %v", b, x, form(x))
	}
	return true
}

// takenBatch tells the same of TakeBatch, whatever stands behind.
func takenBatch(t *testing.T, b []byte) bool {
	t.Helper()
	r := codec.Read(b)
	l := request.TakeBatch(r)
	if r.Err() != api.OK {
		if len(l) > 0 {
			t.Fatalf("TakeBatch of %v: %+v, %d", b, l, r.Err())
		}
		return false
	}
	if c := batchForm(l); checkBatch(l) != api.OK || !bytes.Equal(c, b[:len(b)-r.Left()]) {
		t.Fatalf("TakeBatch of %v: %+v, of the bytes %v", b, l, c)
	}
	return true
}

// P8.5: what is taken was put: all short texts of some bytes.
func TestTakeAll(t *testing.T) {
	from := []byte{0, 1, 2, 3, 4, 7, 116, 128}
	requests, batches := 0, 0
	var down func(b []byte)
	down = func(b []byte) {
		if takenRequest(t, b) {
			requests++
		}
		if takenBatch(t, b) {
			batches++
		}
		if len(b) == 6 {
			return
		}
		for _, c := range from {
			down(append(b, c))
		}
	}
	down(make([]byte, 0, 6))
	if requests < 100 || batches < 100 {
		t.Errorf("only %d requests and %d batches were taken", requests, batches)
	}
}

// turn is a text of which some bytes were turned, left out or put in.
func turn(dice *rand.Rand, b []byte) []byte {
	for range 1 + dice.Intn(3) {
		i := dice.Intn(len(b))
		switch dice.Intn(3) {
		case 0:
			b[i] ^= 1 << dice.Intn(8)
		case 1:
			b = slices.Insert(b, i, byte(dice.Intn(256)))
		case 2:
			b = append(slices.Delete(b, i, i+1), 0)
		}
	}
	return b
}

// P8.5: what is taken was put: bytes of which some were turned.
func TestTakeTurned(t *testing.T) {
	dice := rand.New(rand.NewSource(7))
	x, l := good(), goodBatches()
	requests, batches := 0, 0
	for range 100000 {
		if takenRequest(t, turn(dice, form(x[dice.Intn(len(x))]))) {
			requests++
		}
		if takenBatch(t, turn(dice, batchForm(l[dice.Intn(len(l))]))) {
			batches++
		}
	}
	if requests < 100 || batches < 100 {
		t.Errorf("only %d requests and %d batches were taken", requests, batches)
	}
}

// P8.6: Valid says yes of just what was sealed for its client, over all of many requests and signatures.
func TestOnlyItsClient(t *testing.T) {
	var asked []api.Request
	for client := range 4 {
		for time := range int64(2) {
			asked = append(asked, api.Request{Client: client, Time: 1 + time, Op: create("t")}, api.Request{Client: client, Time: 1 + time})
		}
	}
	u, l := ideal.NewTable(), ideal.NewLedger()
	var made api.Batch
	for i, x := range asked {
		if i%3 == 0 {
			u.Sum(form(x)) // known, and not sealed
			continue
		}
		made = append(made, seal(t, u, l, x))
	}
	for key := range api.MaxBrokers { // brokers sign what they like with their own keys
		for d := range u.Len() {
			l.Sign(key, api.Digest(1+d))
		}
	}
	yes := 0
	for _, x := range asked {
		for key := -1; key <= api.MaxKeys; key++ {
			for d := range u.Len() + 2 {
				s := api.Signed{Request: x, Sign: api.Sign{Key: key, Digest: api.Digest(d)}}
				want := slices.ContainsFunc(made, func(m api.Signed) bool { return same(m.Request, x) && m.Sign == s.Sign })
				valid(t, u, l, s, want)
				if want {
					yes++
				}
			}
		}
	}
	if yes != len(made) {
		t.Errorf("%d of %d", yes, len(made))
	}
}

// P8.6: what was sealed is valid, whatever comes behind, and also when it was sealed together with others.
func TestSealedStays(t *testing.T) {
	u, l := ideal.NewTable(), ideal.NewLedger()
	var made api.Batch
	for _, x := range good()[:300] {
		s := seal(t, u, l, x)
		if s.Sign.Key != 13+x.Client {
			t.Errorf("Seal(%+v) = %+v", x, s.Sign)
		}
		made = append(made, s)
	}
	for _, s := range made {
		valid(t, u, l, s, true)
	}
	for i := 0; i+4 <= len(made); i += 4 {
		b := made[i : i+4]
		if got := request.ValidBatch(u, l, b); got != (checkBatch(b) == api.OK) {
			t.Errorf("ValidBatch(%+v) = %v", b, got)
		}
	}
}

// P8.7: over one table, Digests are the same just if the batches are.
func TestDigestsTellApart(t *testing.T) {
	u := ideal.NewTable()
	known := map[api.Digest]api.Batch{}
	l := goodBatches()
	for i := 1; i < 4; i++ {
		l = append(l, batch(i))
	}
	for _, change := range changes() {
		for at := range 4 {
			b := batch(4)
			change(&b[at])
			l = append(l, b)
		}
	}
	for _, b := range l {
		d, e := request.Digest(u, b)
		if e != checkBatch(b) {
			t.Fatalf("Digest(%+v): %d", b, e)
		}
		if e != api.OK {
			continue
		}
		if again, e := request.Digest(u, request.Clone(b)); again != d || e != api.OK {
			t.Errorf("Digest of the same: %d and %d", d, again)
		}
		if x, is := known[d]; is && !sameBatch(x, b) {
			t.Fatalf("%+v and %+v have the Digest %d", x, b, d)
		}
		known[d] = b
	}
	if len(known) != u.Len() || len(known) < 500 {
		t.Errorf("%d Digests, the table knows %d", len(known), u.Len())
	}
}

// R6: the same calls answer the same.
func TestSameAgain(t *testing.T) {
	u, v := ideal.NewTable(), ideal.NewTable()
	l, m := ideal.NewLedger(), ideal.NewLedger()
	for _, x := range good() {
		a, b := seal(t, u, l, x), seal(t, v, m, x)
		if !sameBatch(api.Batch{a}, api.Batch{b}) {
			t.Fatalf("Seal(%+v) = %+v and %+v", x, a, b)
		}
		d, _ := request.Digest(u, api.Batch{a})
		f, _ := request.Digest(v, api.Batch{b})
		if d != f {
			t.Fatalf("Digest(%+v) = %d and %d", a, d, f)
		}
	}
}
