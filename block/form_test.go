package block_test

import (
	"bytes"
	"math"
	"math/rand"
	"slices"
	"testing"

	"bulla/api"
	"bulla/block"
)

// P9.1: Check, of each number at and beside its ends, each alone.
func TestCheck(t *testing.T) {
	for _, h := range goodHeaders() {
		if e := block.Check(h); e != api.OK {
			t.Fatalf("Check(%+v) = %d", h, e)
		}
	}
	for _, h := range badHeaders() {
		if e := block.Check(h); e != api.ErrHeader {
			t.Errorf("Check(%+v) = %d", h, e)
		}
	}
	for _, n := range badNumbers() { // all at once
		if e := block.Check(headerOf(slices.Repeat([]int64{n}, 5))); e != api.ErrHeader {
			t.Errorf("Check of %d in all places: %d", n, e)
		}
	}
}

// P9.1: bytes told one by one.
func TestForms(t *testing.T) {
	for _, c := range []struct {
		h api.Header
		b []byte
	}{
		{api.Header{}, []byte{3, 0, 0, 0, 0, 0}},
		{api.Header{Seq: 1, Prev: 2, Batch: 3, Root: 4, State: 5}, []byte{3, 1, 2, 3, 4, 5}},
		{api.Header{Seq: 300, Prev: 127, Batch: 128, Root: 1 << 20, State: 3}, []byte{3, 172, 2, 127, 128, 1, 128, 128, 64, 3}},
		{api.Header{Seq: maxNum}, []byte{3, 128, 128, 128, 128, 128, 128, 128, 16, 0, 0, 0, 0}},
		{api.Header{Prev: maxNum}, []byte{3, 0, 128, 128, 128, 128, 128, 128, 128, 16, 0, 0, 0}},
		{api.Header{State: maxNum - 1}, []byte{3, 0, 0, 0, 0, 255, 255, 255, 255, 255, 255, 255, 15}},
	} {
		if b, e := block.Bytes(c.h); e != api.OK || !bytes.Equal(b, c.b) {
			t.Errorf("Bytes(%+v) = %v, %d, want %v", c.h, b, e, c.b)
		}
		if h, e := block.Parse(c.b); e != api.OK || h != c.h {
			t.Errorf("Parse(%v) = %+v, %d, want %+v", c.b, h, e, c.h)
		}
	}
}

// P9.1, P9.7: there and back.
func TestThereAndBack(t *testing.T) {
	for _, h := range goodHeaders() {
		b, e := block.Bytes(h)
		if e != api.OK || !bytes.Equal(b, form(h)) {
			t.Fatalf("Bytes(%+v) = %v, %d, want %v", h, b, e, form(h))
		}
		if k, e := block.Parse(b); e != api.OK || k != h {
			t.Fatalf("Parse(%v) = %+v, %d, want %+v", b, k, e, h)
		}
	}
}

// P9.1: Bytes of headers that may not be.
func TestBytesRefuses(t *testing.T) {
	for _, h := range badHeaders() {
		if b, e := block.Bytes(h); b != nil || e != api.ErrHeader {
			t.Errorf("Bytes(%+v) = %v, %d", h, b, e)
		}
	}
}

// refused tells where Parse does not refuse bytes, with nothing beside the error.
func refused(t *testing.T, b []byte) {
	t.Helper()
	if h, e := block.Parse(b); h != (api.Header{}) || e != api.ErrHeader {
		t.Errorf("Parse(%v) = %+v, %d", b, h, e)
	}
}

// P9.1: bytes that are cut short at every place, with more behind them, with another first byte.
func TestParseCut(t *testing.T) {
	for i, h := range goodHeaders() {
		if i%11 > 0 {
			continue
		}
		b := form(h)
		for n := range b {
			refused(t, b[:n])
		}
		for _, more := range [][]byte{{0}, {1}, {3}, {128}, b} {
			refused(t, join(b, more))
		}
		refused(t, b[1:])
		refused(t, join([]byte{3}, b))
		for first := range 256 {
			if first != 3 {
				refused(t, join([]byte{byte(first)}, b[1:]))
			}
		}
	}
	refused(t, nil)
	refused(t, []byte{})
	refused(t, []byte{131, 0, 1, 1, 1, 1, 1}) // 3, not in its one form
	refused(t, make([]byte, 6))
}

// P9.1: numbers above MaxNum, and of a form that is not the one form, each alone in each place.
func TestParseNumbers(t *testing.T) {
	good := [][]byte{{1}, {2}, {3}, {4}, {5}}
	bad := [][]byte{
		num(nil, maxNum+1), num(nil, 1<<60), num(nil, 1<<63-1), num(nil, 1<<63), num(nil, math.MaxUint64),
		{128, 0}, {129, 0}, {255, 0}, {128, 128, 0}, {128, 128, 128, 128, 128, 128, 128, 144, 0}, {255, 255, 255, 255, 255, 255, 255, 255, 255, 2},
		bytes.Repeat([]byte{128}, 20), {},
	}
	for i := range good {
		for _, n := range bad {
			l := slices.Clone(good)
			l[i] = n
			refused(t, join([]byte{3}, join(l...)))
		}
	}
	if h, e := block.Parse(join([]byte{3}, join(good...))); e != api.OK || h != (api.Header{Seq: 1, Prev: 2, Batch: 3, Root: 4, State: 5}) {
		t.Errorf("Parse = %+v, %d", h, e)
	}
}

// taken tells where Parse takes a text that is not the bytes of what it says, or refuses one with another error or more.
func taken(t *testing.T, b []byte) bool {
	t.Helper()
	first := bytes.Clone(b)
	h, e := block.Parse(b)
	if !bytes.Equal(b, first) {
		t.Fatalf("Parse wrote to %v", first)
	}
	if e != api.OK {
		if e != api.ErrHeader || h != (api.Header{}) {
			t.Fatalf("Parse(%v) = %+v, %d", b, h, e)
		}
		return false
	}
	if check(h) != api.OK || !bytes.Equal(form(h), b) {
		t.Fatalf("Parse(%v) = %+v, of the bytes %v", b, h, form(h))
	}
	return true
}

// P9.1: what is taken is Bytes of a header: all short texts of some bytes.
func TestParseAll(t *testing.T) {
	count := 0
	var down func(b []byte)
	down = func(b []byte) {
		if taken(t, b) {
			count++
		}
		if len(b) == 7 {
			return
		}
		for _, c := range []byte{0, 1, 3, 127, 128} {
			down(append(b, c))
		}
	}
	down(make([]byte, 0, 7))
	if want := 4*4*4*4*4 + 5*3*4*4*4*4; count != want { // of one byte each, or one of two: 128 and anything but 0
		t.Errorf("%d were taken, want %d", count, want)
	}
}

// P9.1: what is taken is Bytes of a header: bytes of which some were turned, left out or put in.
func TestParseTurned(t *testing.T) {
	dice := rand.New(rand.NewSource(9))
	l := goodHeaders()
	count := 0
	for range 50000 {
		b := form(l[dice.Intn(len(l))])
		for range 1 + dice.Intn(3) {
			i := dice.Intn(len(b))
			switch dice.Intn(3) {
			case 0:
				b[i] ^= 1 << dice.Intn(8)
			case 1:
				b = slices.Insert(b, i, byte(dice.Intn(256)))
			case 2:
				b = append(slices.Delete(b, i, i+1), 0)
			}
		}
		if taken(t, b) {
			count++
		}
	}
	if count < 1000 || count > 40000 {
		t.Errorf("%d were taken", count)
	}
}

// R3: Parse keeps nothing of b, and what Bytes answers is nobody else's.
func TestFormsKeepOff(t *testing.T) {
	h := api.Header{Seq: 300, Prev: 2, Batch: 3, Root: 4, State: 5}
	b, _ := block.Bytes(h)
	c, _ := block.Bytes(h)
	scribbleBytes(b)
	if !bytes.Equal(c, form(h)) {
		t.Errorf("Bytes answered what somebody else can write to: %v", c)
	}
	if b, _ := block.Bytes(h); !bytes.Equal(b, form(h)) {
		t.Errorf("Bytes = %v, behind what was written to its answer", b)
	}
}

// THE BOUND: Parse of very much that is no header.
func TestParseNearLinear(t *testing.T) {
	b := bytes.Repeat([]byte{3}, 1<<20)
	if m := allocated(func() { refused(t, b) }); m > 3<<20 {
		t.Errorf("%d bytes of memory", m)
	}
}
