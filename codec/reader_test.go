package codec_test

import (
	"bytes"
	"math"
	"testing"

	"bulla/api"
	"bulla/codec"
)

// high is n bytes of 128 or more with others behind them.
func high(n int, c byte, others ...byte) []byte {
	return append(bytes.Repeat([]byte{c}, n), others...)
}

// untouched tells whether every call of a reader that has the error e answers zero values and leaves it there.
func untouched(r *codec.Reader, e api.Errno) bool {
	r.Fail(api.ErrFull)
	return r.Num(math.MaxUint64) == 0 && r.Take(0) == nil && r.Take(1) == nil && r.Take(-1) == nil &&
		r.Bytes(math.MaxInt) == nil && r.List(math.MaxInt, math.MaxInt) == nil &&
		r.Left() == 0 && r.Err() == e && r.Done() == e
}

// P1.2: a number, where its form is one.
func TestNum(t *testing.T) {
	for _, x := range []struct {
		b    []byte
		most uint64
		n    uint64
		left int
	}{
		{[]byte{0}, 0, 0, 0},
		{[]byte{0, 0}, 0, 0, 1},
		{[]byte{100}, 100, 100, 0},
		{[]byte{127, 128}, 127, 127, 1},
		{[]byte{128, 1}, 128, 128, 0},
		{[]byte{172, 2, 5, 5}, 300, 300, 2},
		{high(8, 255, 127), math.MaxInt64, math.MaxInt64, 0},
		{high(9, 128, 1, 1), math.MaxUint64, 1 << 63, 1},
		{high(9, 255, 1), math.MaxUint64, math.MaxUint64, 0},
	} {
		r := codec.Read(x.b)
		if n := r.Num(x.most); n != x.n || r.Err() != api.OK || r.Left() != x.left {
			t.Errorf("Num(%d) of %v = %d, %d, left %d", x.most, x.b, n, r.Err(), r.Left())
		}
	}
}

// P1.2: a number's errors, each also with more bytes behind it.
func TestNumErrors(t *testing.T) {
	for _, x := range []struct {
		b    []byte
		most uint64
		e    api.Errno
	}{
		{nil, math.MaxUint64, api.ErrCut},
		{[]byte{128}, 0, api.ErrCut}, // no form is there yet that could be above most
		{high(9, 255), math.MaxUint64, api.ErrCut},
		{[]byte{128, 0}, math.MaxUint64, api.ErrNum},
		{[]byte{255, 0}, math.MaxUint64, api.ErrNum},
		{[]byte{128, 128, 0}, 0, api.ErrNum},
		{high(9, 128, 0), math.MaxUint64, api.ErrNum},
		{high(9, 128, 2), math.MaxUint64, api.ErrNum},
		{high(9, 128, 127), math.MaxUint64, api.ErrNum},
		{high(10, 128), math.MaxUint64, api.ErrNum}, // told at the tenth byte, though an eleventh would be cut
		{high(10, 255), math.MaxUint64, api.ErrNum},
		{high(10, 128, 1), math.MaxUint64, api.ErrNum},
		{[]byte{1}, 0, api.ErrNum},
		{[]byte{101}, 100, api.ErrNum},
		{[]byte{173, 2}, 300, api.ErrNum},
		{high(9, 255, 1), math.MaxUint64 - 1, api.ErrNum},
	} {
		r := codec.Read(x.b)
		if n := r.Num(x.most); n != 0 || r.Err() != x.e || !untouched(r, x.e) {
			t.Errorf("Num(%d) of %v = %d, %d, want %d", x.most, x.b, n, r.Err(), x.e)
		}
		if x.e == api.ErrNum {
			r = codec.Read(append(bytes.Clone(x.b), 1, 1))
			if n := r.Num(x.most); n != 0 || !untouched(r, x.e) {
				t.Errorf("Num(%d) of %v and more = %d, %d", x.most, x.b, n, r.Err())
			}
		}
	}
}

// P1.2: Take.
func TestTake(t *testing.T) {
	b := []byte{1, 2, 3}
	for n := 0; n <= 3; n++ {
		r := codec.Read(b)
		if x := r.Take(n); !bytes.Equal(x, b[:n]) || r.Err() != api.OK || r.Left() != 3-n {
			t.Errorf("Take(%d) = %v, %d", n, x, r.Err())
		}
	}
	for _, x := range []struct {
		b []byte
		n int
		e api.Errno
	}{
		{b, 4, api.ErrCut},
		{nil, 1, api.ErrCut},
		{b, math.MaxInt, api.ErrCut},
		{b, -1, api.ErrArg},
		{nil, -1, api.ErrArg},
		{b, math.MinInt, api.ErrArg},
	} {
		r := codec.Read(x.b)
		if g := r.Take(x.n); g != nil || !untouched(r, x.e) {
			t.Errorf("Take(%d) of %v = %v, %d", x.n, x.b, g, r.Err())
		}
	}
	r := codec.Read(nil)
	if x := r.Take(0); len(x) != 0 || r.Done() != api.OK {
		t.Error("nothing isn't taken from nothing")
	}
}

// P1.2: Bytes.
func TestBytes(t *testing.T) {
	for _, x := range []struct {
		b    []byte
		most int
		want []byte
		left int
		e    api.Errno
	}{
		{[]byte{2, 7, 8}, 2, []byte{7, 8}, 0, api.OK},
		{[]byte{2, 7, 8, 9}, math.MaxInt, []byte{7, 8}, 1, api.OK},
		{[]byte{0, 9}, 0, nil, 1, api.OK},
		{[]byte{0}, -1, nil, 0, api.OK}, // below 0: of 0
		{[]byte{0}, math.MinInt, nil, 0, api.OK},
		{[]byte{1, 5}, -1, nil, 0, api.ErrNum},
		{[]byte{1, 5}, 0, nil, 0, api.ErrNum},
		{[]byte{3, 7}, 2, nil, 0, api.ErrNum}, // Num's error comes ahead of Take's
		{[]byte{2, 7}, 2, nil, 0, api.ErrCut},
		{[]byte{130, 0, 7, 8}, 9, nil, 0, api.ErrNum},
		{nil, 9, nil, 0, api.ErrCut},
		{[]byte{128}, 9, nil, 0, api.ErrCut},
		{high(8, 255, 127), math.MaxInt, nil, 0, api.ErrCut},
		{high(9, 255, 1), math.MaxInt, nil, 0, api.ErrNum}, // -1, were it made an int
	} {
		r := codec.Read(x.b)
		g := r.Bytes(x.most)
		if !bytes.Equal(g, x.want) || r.Left() != x.left || r.Err() != x.e {
			t.Errorf("Bytes(%d) of %v = %v, %d", x.most, x.b, g, r.Err())
		}
		if x.e != api.OK && (g != nil || !untouched(r, x.e)) {
			t.Errorf("Bytes(%d) of %v reads on with its error", x.most, x.b)
		}
	}
}

// P1.2: List.
func TestList(t *testing.T) {
	for _, x := range []struct {
		b          []byte
		most, each int
		want       [][]byte
		left       int
		e          api.Errno
	}{
		{[]byte{0, 6}, 3, 3, nil, 1, api.OK},
		{[]byte{0}, -1, -1, nil, 0, api.OK}, // below 0: of 0
		{[]byte{0}, math.MinInt, 9, nil, 0, api.OK},
		{[]byte{2, 1, 7, 0, 6}, 2, 1, [][]byte{{7}, nil}, 1, api.OK},
		{[]byte{2, 0, 0}, 2, -1, [][]byte{nil, nil}, 0, api.OK},
		{[]byte{1, 2, 7, 8}, math.MaxInt, math.MaxInt, [][]byte{{7, 8}}, 0, api.OK},
		{[]byte{1, 0}, -1, 9, nil, 0, api.ErrNum},
		{[]byte{1, 0}, 0, 9, nil, 0, api.ErrNum},
		{[]byte{3, 0, 0, 0}, 2, 9, nil, 0, api.ErrNum},
		{[]byte{2, 1, 7, 2, 8, 9}, 2, 1, nil, 0, api.ErrNum}, // the second part is too long
		{[]byte{1, 1, 7}, 1, -1, nil, 0, api.ErrNum},
		{[]byte{2, 1, 7}, 2, 1, nil, 0, api.ErrCut},
		{[]byte{2, 1, 7, 1}, 2, 1, nil, 0, api.ErrCut},
		{[]byte{1, 129, 0, 7}, 2, 9, nil, 0, api.ErrNum},
		{nil, 2, 2, nil, 0, api.ErrCut},
		{high(9, 255, 1), math.MaxInt, 1, nil, 0, api.ErrNum},
	} {
		r := codec.Read(x.b)
		g := r.List(x.most, x.each)
		same := len(g) == len(x.want)
		for i := range g {
			same = same && bytes.Equal(g[i], x.want[i])
		}
		if !same || r.Left() != x.left || r.Err() != x.e {
			t.Errorf("List(%d, %d) of %v = %v, %d", x.most, x.each, x.b, g, r.Err())
		}
		if x.e != api.OK && (g != nil || !untouched(r, x.e)) {
			t.Errorf("List(%d, %d) of %v reads on with its error", x.most, x.each, x.b)
		}
	}
}

// P1.2, THE BOUND: a count alone, or a length, takes neither time nor memory.
func TestPromisedPartsCostNothing(t *testing.T) {
	b := append(high(8, 255, 127), 0, 0, 0)
	m := allocated(func() {
		r := codec.Read(b)
		if l := r.List(math.MaxInt, 1); l != nil || r.Err() != api.ErrCut {
			t.Error(l, r.Err())
		}
		s := codec.Read(b)
		if x := s.Bytes(math.MaxInt); x != nil || s.Err() != api.ErrCut {
			t.Error(x, s.Err())
		}
	})
	if m > 1<<16 {
		t.Errorf("%d bytes of memory", m)
	}
}

// R3: what a reader was handed and what it answered are nobody else's.
func TestReaderKeepsOff(t *testing.T) {
	b := []byte{2, 7, 8, 2, 1, 5, 1, 6, 9}
	first := bytes.Clone(b)
	r := codec.Read(b)
	clear(b)
	x := r.Bytes(2)
	if !bytes.Equal(x, []byte{7, 8}) {
		t.Fatal("a reader reads what its caller wrote later on:", x)
	}
	other := *r
	x = append(x, 1, 1, 1, 1)
	l := r.List(2, 1)
	if len(l) != 2 || l[0][0] != 5 || l[1][0] != 6 {
		t.Fatal("writing behind an answer changes what is read:", l)
	}
	_ = append(l[0], 1, 1, 1)
	l[0][0] = 1
	if l[1][0] != 6 {
		t.Error("parts of a list share memory")
	}
	if m := other.List(2, 1); len(m) != 2 || m[0][0] != 5 || m[1][0] != 6 {
		t.Error("what was answered is what a copy of the reader reads:", m)
	}
	b = bytes.Clone(first)
	r = codec.Read(b)
	for _, p := range append(r.List(2, 9), r.Take(1)) {
		clear(p)
	}
	if !bytes.Equal(b, first) {
		t.Error("what was handed in is written to")
	}
}

// P1.2: the first error stands.
func TestFirstError(t *testing.T) {
	r := codec.Read([]byte{5, 128, 0, 7})
	if r.Num(9) != 5 || r.Num(9) != 0 || !untouched(r, api.ErrNum) {
		t.Error("ErrNum is not kept:", r.Err())
	}
	r = codec.Read([]byte{5})
	if r.Take(2) != nil || r.Take(-1) != nil || r.Num(1) != 0 || !untouched(r, api.ErrCut) {
		t.Error("ErrCut is not kept:", r.Err())
	}
}

// P1.3: Fail, Left, Err, Done.
func TestFail(t *testing.T) {
	r := codec.Read([]byte{1, 2, 3})
	r.Fail(api.OK)
	if r.Err() != api.OK || r.Left() != 3 {
		t.Error("OK is no error:", r.Err(), r.Left())
	}
	if r.Done() != api.ErrRest || r.Err() != api.OK || r.Left() != 3 {
		t.Error("Done is to tell ErrRest and to change nothing:", r.Err(), r.Left())
	}
	r.Take(2)
	if r.Done() != api.ErrRest || r.Left() != 1 {
		t.Error("one byte is left:", r.Done(), r.Left())
	}
	r.Fail(api.ErrOp)
	r.Fail(api.OK)
	r.Fail(api.ErrName)
	if r.Err() != api.ErrOp || r.Done() != api.ErrOp || r.Left() != 0 || !untouched(r, api.ErrOp) {
		t.Error("the error is not the first one that was told:", r.Err())
	}
	r = codec.Read([]byte{1})
	r.Take(1)
	if r.Done() != api.OK || r.Err() != api.OK || r.Left() != 0 {
		t.Error("all was read:", r.Done(), r.Err(), r.Left())
	}
	r.Fail(-3)
	if r.Err() != -3 || r.Done() != -3 {
		t.Error("any number but OK is an error:", r.Err())
	}
	for _, b := range [][]byte{nil, {}} {
		if r := codec.Read(b); r.Done() != api.OK || r.Left() != 0 {
			t.Error("a reader of nothing is done:", r.Done())
		}
	}
}

// P1.3: a reader that no call made.
func TestReaderOfNoCall(t *testing.T) {
	var none *codec.Reader
	for _, r := range []*codec.Reader{none, {}, new(codec.Reader)} {
		r.Fail(api.OK)
		if !untouched(r, api.ErrMade) {
			t.Errorf("%v: Err %d, Done %d", r, r.Err(), r.Done())
		}
	}
}
