package op_test

import (
	"bytes"
	"math/rand"
	"slices"
	"testing"

	"bulla/api"
	"bulla/codec"
	"bulla/op"
)

// P6.4: Parse of Bytes is the operation.
func TestThereAndBack(t *testing.T) {
	for _, o := range good() {
		b, e := op.Bytes(o)
		if e != api.OK || !bytes.Equal(b, form(o)) {
			t.Fatalf("Bytes(%+v) = %v, %d", o, b, e)
		}
		if x, e := op.Parse(b); e != api.OK || !same(x, o) {
			t.Fatalf("Parse(%v) = %+v, %d, want %+v", b, x, e, o)
		}
	}
}

// taken tells where Parse takes a text that is not the bytes of what it says, or refuses one with more than an error.
func taken(t *testing.T, b []byte) bool {
	t.Helper()
	first := bytes.Clone(b)
	o, e := op.Parse(b)
	if !bytes.Equal(b, first) {
		t.Fatalf("Parse wrote to %v", first)
	}
	if e != api.OK {
		if !isZero(o) {
			t.Fatalf("Parse(%v) = %+v, %d", b, o, e)
		}
		return false
	}
	if check(o) != api.OK || !bytes.Equal(form(o), b) {
		t.Fatalf("Parse(%v) = %+v, of the bytes %v", b, o, form(o))
	}
	return true
}

// P6.4: what Parse takes has these bytes: all short texts of some bytes.
func TestParseAll(t *testing.T) {
	from := []byte{0, 1, 2, 3, 4, 5, 116, 128}
	n := 0
	var down func(b []byte)
	down = func(b []byte) {
		if taken(t, b) {
			n++
		}
		if len(b) == 7 {
			return
		}
		for _, c := range from {
			down(append(b, c))
		}
	}
	down(make([]byte, 0, 7))
	if n < 100 {
		t.Errorf("only %d texts were taken", n)
	}
}

// P6.4: what Parse takes has these bytes: bytes of operations of which some were turned, left out or put in.
func TestParseTurned(t *testing.T) {
	dice := rand.New(rand.NewSource(2))
	l := good()
	n := 0
	for range 200000 {
		b := form(l[dice.Intn(len(l))])
		for range 1 + dice.Intn(3) {
			i := dice.Intn(len(b))
			switch dice.Intn(3) {
			case 0:
				b[i] ^= 1 << dice.Intn(8)
			case 1:
				b = slices.Insert(b, i, byte(dice.Intn(256)))
			case 2:
				b = append(slices.Delete(b, i, i+1), 0)
			}
		}
		if taken(t, b) {
			n++
		}
	}
	if n < 100 {
		t.Errorf("only %d texts were taken", n)
	}
}

// P6.5: no operation's bytes begin another one's.
func TestNoBytesBeginOthers(t *testing.T) {
	known := map[string]api.Op{}
	for _, o := range good() {
		b, _ := op.Bytes(o)
		if x, is := known[string(b)]; is && !same(x, o) {
			t.Fatalf("%+v and %+v have the same bytes", x, o)
		}
		known[string(b)] = o
	}
	for b := range known {
		for n := range b {
			if o, is := known[b[:n]]; is {
				t.Fatalf("the bytes of %+v begin those of %+v", o, known[b])
			}
			if o, e := op.Parse([]byte(b[:n])); e == api.OK {
				t.Fatalf("what begins the bytes of %+v is taken as %+v", known[b], o)
			}
		}
	}
}

// P6.5: a reader knows where an operation ends, whatever stands behind it.
func TestTakeEnds(t *testing.T) {
	dice := rand.New(rand.NewSource(3))
	for _, o := range good() {
		more := make([]byte, dice.Intn(9))
		dice.Read(more)
		r := codec.Read(join(form(o), more))
		if x := op.Take(r); !same(x, o) || !bytes.Equal(r.Take(r.Left()), more) {
			t.Fatalf("Take of %+v with %v behind it: %+v", o, more, x)
		}
	}
}

// R6: the same calls answer the same.
func TestSameAgain(t *testing.T) {
	for _, o := range good() {
		a, _ := op.Bytes(o)
		b, _ := op.Bytes(op.Clone(o))
		if !bytes.Equal(a, b) {
			t.Fatalf("Bytes(%+v) = %v and %v", o, a, b)
		}
	}
}
