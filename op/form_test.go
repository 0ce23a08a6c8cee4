package op_test

import (
	"bytes"
	"math"
	"strings"
	"testing"

	"bulla/api"
	"bulla/codec"
	"bulla/op"
)

// forms are operations with their bytes, by the chapter's words.
func forms() []struct {
	o api.Op
	b []byte
} {
	return []struct {
		o api.Op
		b []byte
	}{
		{api.Op{}, []byte{0}},
		{api.Op{Kind: api.OpCreate, Topic: "t"}, []byte{1, 1, 116}},
		{api.Op{Kind: api.OpCreate, Topic: "é"}, []byte{1, 2, 195, 169}},
		{api.Op{Kind: api.OpCreate, Topic: runes(16, 0x10ffff)}, join([]byte{1, 64}, bytes.Repeat([]byte{244, 143, 191, 191}, 16))},
		{api.Op{Kind: api.OpPublish, Topic: "t", Records: []api.Record{{9}}}, []byte{2, 1, 116, 1, 1, 9}},
		{api.Op{Kind: api.OpPublish, Topic: "t", Records: []api.Record{nil}}, []byte{2, 1, 116, 1, 0}},
		{api.Op{Kind: api.OpPublish, Topic: "ab", Records: []api.Record{{0}, {}, {255, 128}, {1}}}, []byte{2, 2, 97, 98, 4, 1, 0, 0, 2, 255, 128, 1, 1}},
		{api.Op{Kind: api.OpPublish, Topic: "t", Records: records(2, 64)}, join([]byte{2, 1, 116, 2, 64}, record(64), []byte{64}, record(64))},
		{api.Op{Kind: api.OpCommit, Topic: "t", Group: "gh", Offset: 300}, []byte{3, 1, 116, 2, 103, 104, 172, 2}},
		{api.Op{Kind: api.OpCommit, Topic: "t", Group: "t"}, []byte{3, 1, 116, 1, 116, 0}},
		{api.Op{Kind: api.OpTrim, Topic: "t", Offset: 127}, []byte{4, 1, 116, 127}},
		{api.Op{Kind: api.OpTrim, Topic: "t", Offset: 1 << 53}, []byte{4, 1, 116, 128, 128, 128, 128, 128, 128, 128, 16}},
	}
}

// P6.2: an operation's bytes, put and read.
func TestForms(t *testing.T) {
	for _, x := range forms() {
		if b, e := op.Bytes(x.o); e != api.OK || !bytes.Equal(b, x.b) {
			t.Errorf("Bytes(%+v) = %v, %d, want %v", x.o, b, e, x.b)
		}
		if b := op.Put([]byte{7, 128}, x.o); !bytes.Equal(b, join([]byte{7, 128}, x.b)) {
			t.Errorf("Put(.., %+v) = %v", x.o, b)
		}
		if b := op.Put(nil, x.o); !bytes.Equal(b, x.b) {
			t.Errorf("Put(nil, %+v) = %v", x.o, b)
		}
		if o, e := op.Parse(x.b); e != api.OK || !same(o, x.o) {
			t.Errorf("Parse(%v) = %+v, %d, want %+v", x.b, o, e, x.o)
		}
		r := codec.Read(join(x.b, []byte{1, 200}))
		if o := op.Take(r); r.Err() != api.OK || !same(o, x.o) || r.Left() != 2 {
			t.Errorf("Take of %v: %+v, %d, %d left", x.b, o, r.Err(), r.Left())
		}
	}
}

// P6.2: of an operation that may not be, Put puts nothing, and Bytes tells Check's error.
func TestPutAll(t *testing.T) {
	ahead := []byte{1, 2, 3}
	for _, o := range all() {
		var want []byte
		if check(o) == api.OK {
			want = form(o)
		}
		if b := op.Put(ahead, o); !bytes.Equal(b, join(ahead, want)) {
			t.Fatalf("Put(.., %+v) = %v", o, b)
		}
		if b, e := op.Bytes(o); e != check(o) || !bytes.Equal(b, want) {
			t.Fatalf("Bytes(%+v) = %v, %d, want %v, %d", o, b, e, want, check(o))
		}
	}
	if b := op.Put(nil, api.Op{Kind: 5}); len(b) != 0 {
		t.Errorf("Put(nil, ..) of what may not be: %v", b)
	}
}

// R3: neither b nor what stands behind it is written to, and the answers are nobody else's.
func TestPutKeepsOff(t *testing.T) {
	const owned = "rrrrrrrrrrrrrrrrrrrrrrrrrrrrrrrrrrrrrrrr"
	for _, o := range []api.Op{{}, {Kind: api.OpPublish, Topic: "t", Records: []api.Record{{9}, {8}}}, {Kind: 5}} {
		for _, n := range []int{0, 4, len(owned)} {
			room := []byte(owned)
			b := op.Put(room[:n], o)
			x := op.PutResult(room[:n], api.Result{Err: 60, Offset: 300})
			if string(room) != owned {
				t.Errorf("what was handed in was written to: %q", room)
			}
			first := bytes.Clone(join(b, x))
			clear(room)
			if !bytes.Equal(join(b, x), first) {
				t.Errorf("what was answered is what the caller owns: %+v", o)
			}
			for i := range b[:cap(b)] {
				b[:cap(b)][i] = 1
			}
			for i := range x[:cap(x)] {
				x[:cap(x)][i] = 1
			}
			if !bytes.Equal(room, make([]byte, len(owned))) {
				t.Errorf("what was answered is what the caller owns: %+v", o)
			}
		}
	}
}

// R3: records are not written to, nor kept.
func TestBytesKeepsOff(t *testing.T) {
	one := record(64)
	o := api.Op{Kind: api.OpPublish, Topic: "t", Records: []api.Record{one[:3], one[3:10], one[:3]}}
	b, _ := op.Bytes(o)
	if !bytes.Equal(one, record(64)) {
		t.Error("Bytes wrote to a record")
	}
	first := bytes.Clone(b)
	clear(one)
	if !bytes.Equal(b, first) {
		t.Error("Bytes answered what a record's owner can write to")
	}
}

// failed tells where a text does not fail with an error, in Parse and in Take, leaving nothing.
func failed(t *testing.T, b []byte, e api.Errno) {
	t.Helper()
	if o, f := op.Parse(b); f != e || !isZero(o) {
		t.Errorf("Parse(%v) = %+v, %d, want %d", b, o, f, e)
	}
	r := codec.Read(b)
	if o := op.Take(r); r.Err() != e || !isZero(o) || r.Left() != 0 || r.Done() != e {
		t.Errorf("Take of %v: %+v, %d, want %d", b, o, r.Err(), e)
	}
}

// P6.2: bytes that end too early, at every place, and bytes with more behind them.
func TestCut(t *testing.T) {
	for _, x := range forms() {
		for n := range x.b {
			failed(t, x.b[:n], api.ErrCut)
		}
		for _, more := range [][]byte{{0}, {255}, x.b} {
			b := join(x.b, more)
			if o, e := op.Parse(b); e != api.ErrRest || !isZero(o) {
				t.Errorf("Parse(%v) = %+v, %d, want ErrRest", b, o, e)
			}
			r := codec.Read(b)
			if o := op.Take(r); r.Err() != api.OK || !same(o, x.o) || r.Left() != len(more) {
				t.Errorf("Take of %v: %+v, %d", b, o, r.Err())
			}
		}
	}
	failed(t, nil, api.ErrCut)
}

// P6.2: numbers above their most, and numbers of a form that is not the one form.
func TestNumbers(t *testing.T) {
	name := strings.Repeat("t", 65)
	big := codec.PutNum(nil, api.MaxNum+1)
	for _, b := range [][]byte{
		{5}, {6}, {127}, {128, 1}, {5, 1, 116}, {0x81, 0x02}, join(bytes.Repeat([]byte{255}, 9), []byte{1}), bytes.Repeat([]byte{255}, 10), // kinds
		{128, 0}, {129, 0, 1, 116}, {132, 0, 1, 116, 0},
		{1, 65}, join([]byte{1}, text(name)), {1, 129, 0, 116}, {1, 192, 0}, {1, 255, 255, 3}, // topics
		{3, 1, 116, 65}, join([]byte{3, 1, 116}, text(name), []byte{0}), {3, 1, 116, 129, 0, 103, 0}, // groups
		{3, 1, 116, 1, 103, 128, 0}, join([]byte{3, 1, 116, 1, 103}, big), {4, 1, 116, 129, 128, 0}, join([]byte{4, 1, 116}, big), // offsets
		join([]byte{4, 1, 116}, codec.PutNum(nil, math.MaxUint64)), join([]byte{4, 1, 116}, codec.PutNum(nil, 1<<63)),
		{2, 1, 116, 5}, {2, 1, 116, 5, 0, 0, 0, 0, 0}, {2, 1, 116, 129, 0, 1, 9}, {2, 1, 116, 128, 0}, {2, 1, 116, 128, 2}, // how many records
		{2, 1, 116, 1, 65}, join([]byte{2, 1, 116, 1, 65}, record(65)), {2, 1, 116, 2, 0, 65}, {2, 1, 116, 1, 129, 0, 9}, // records
	} {
		failed(t, b, api.ErrNum)
	}
}

// P6.2: what is read as its form says, and is then refused by Check.
func TestTakeChecks(t *testing.T) {
	long := runes(17, 'x')
	for _, x := range []struct {
		b []byte
		e api.Errno
	}{
		{[]byte{1, 0}, api.ErrName},
		{[]byte{1, 1, '/'}, api.ErrName},
		{join([]byte{1}, text(long)), api.ErrName},
		{join([]byte{1}, text(runes(64, 'x'))), api.ErrName},
		{[]byte{1, 1, 255}, api.ErrName},
		{[]byte{3, 1, 't', 0, 0}, api.ErrName},
		{[]byte{3, 0, 1, 'g', 0}, api.ErrName},
		{join([]byte{3, 1, 't'}, text(long), []byte{7}), api.ErrName},
		{[]byte{4, 1, ' ', 0}, api.ErrName},
		{[]byte{2, 0, 0}, api.ErrName},
		{[]byte{2, 1, '/', 1, 0}, api.ErrName},
		{[]byte{2, 1, 't', 0}, api.ErrRecord},
	} {
		failed(t, x.b, x.e)
		failed(t, join(x.b, []byte{0}), x.e) // ahead of the bytes that are left
	}
}

// P6.2: the reader's error comes ahead of Check's.
func TestReadersErrorFirst(t *testing.T) {
	for _, x := range []struct {
		b []byte
		e api.Errno
	}{
		{[]byte{4, 1, '/'}, api.ErrCut},
		{[]byte{4, 1, '/', 128}, api.ErrCut},
		{[]byte{4, 1, '/', 128, 0}, api.ErrNum},
		{[]byte{3, 0, 65}, api.ErrNum},
		{[]byte{3, 0, 1}, api.ErrCut},
		{[]byte{2, 1, '/', 5}, api.ErrNum},
		{[]byte{2, 0, 1}, api.ErrCut},
		{[]byte{2, 0, 1, 65}, api.ErrNum},
		{[]byte{2, 1, '/', 2, 0, 2, 9}, api.ErrCut},
	} {
		failed(t, x.b, x.e)
	}
}

// P6.2, P6.3: a reader that has an error already, and one that no call made.
func TestTakeOfError(t *testing.T) {
	for _, e := range []api.Errno{api.ErrRest, api.ErrName, -1} {
		for _, x := range forms() {
			r := codec.Read(join(x.b, x.b))
			r.Fail(e)
			if o := op.Take(r); !isZero(o) || r.Err() != e {
				t.Errorf("Take of a reader with the error %d: %+v, %d", e, o, r.Err())
			}
			if y := op.TakeResult(r); y != (api.Result{}) || r.Err() != e {
				t.Errorf("TakeResult of a reader with the error %d: %+v, %d", e, y, r.Err())
			}
		}
	}
	var none *codec.Reader
	for _, r := range []*codec.Reader{none, {}, new(codec.Reader)} {
		if o := op.Take(r); !isZero(o) || r.Err() != api.ErrMade {
			t.Errorf("Take of a reader that no call made: %+v, %d", o, r.Err())
		}
		if x := op.TakeResult(r); x != (api.Result{}) || r.Err() != api.ErrMade {
			t.Errorf("TakeResult of a reader that no call made: %+v, %d", x, r.Err())
		}
	}
}

// P6.2: operations and results one behind the other, from one reader.
func TestTakeMany(t *testing.T) {
	var b []byte
	for i, x := range forms() {
		b = op.PutResult(op.Put(b, x.o), api.Result{Err: api.Errno(i), Offset: int64(i) << 40})
	}
	r := codec.Read(b)
	for i, x := range forms() {
		if o := op.Take(r); !same(o, x.o) {
			t.Errorf("Take: %+v, want %+v", o, x.o)
		}
		if y := op.TakeResult(r); y != (api.Result{Err: api.Errno(i), Offset: int64(i) << 40}) {
			t.Errorf("TakeResult: %+v", y)
		}
	}
	if r.Done() != api.OK {
		t.Error(r.Done())
	}
}

// R3: what is read is nobody else's, and no two records share memory.
func TestParseKeepsOff(t *testing.T) {
	want := api.Op{Kind: api.OpPublish, Topic: "t", Records: []api.Record{{1, 2}, {}, {3}, {4}}}
	b := form(want)
	x, _ := op.Parse(b)
	y, _ := op.Parse(b)
	r := codec.Read(b)
	z := op.Take(r)
	if !bytes.Equal(b, form(want)) {
		t.Error("Parse wrote to what was handed in")
	}
	clear(b)
	scribble(x)
	for i := range y.Records {
		_ = append(y.Records[i], 7, 7, 7, 7) // must not run into the next record
	}
	if !same(y, want) || !same(z, want) {
		t.Errorf("what was read is somebody else's: %+v, %+v", y, z)
	}
}

// P6.3: a result's bytes.
func TestResults(t *testing.T) {
	for _, x := range []struct {
		x    api.Result
		b    []byte
		back api.Result
	}{
		{api.Result{}, []byte{0, 0}, api.Result{}},
		{api.Result{Err: 60, Offset: 3}, []byte{60, 3}, api.Result{Err: 60, Offset: 3}},
		{api.Result{Offset: 300}, []byte{0, 172, 2}, api.Result{Offset: 300}},
		{api.Result{Err: 300}, []byte{172, 2, 0}, api.Result{Err: 300}},
		{api.Result{Err: -1, Offset: 7}, []byte{0, 7}, api.Result{Offset: 7}},
		{api.Result{Err: 7, Offset: -1}, []byte{7, 0}, api.Result{Err: 7}},
		{api.Result{Err: math.MinInt, Offset: math.MinInt64}, []byte{0, 0}, api.Result{}},
		{api.Result{Err: 1 << 16, Offset: 1 << 53}, []byte{128, 128, 4, 128, 128, 128, 128, 128, 128, 128, 16}, api.Result{Err: 1 << 16, Offset: 1 << 53}},
	} {
		if b := op.PutResult(nil, x.x); !bytes.Equal(b, x.b) {
			t.Errorf("PutResult(nil, %+v) = %v, want %v", x.x, b, x.b)
		}
		if b := op.PutResult([]byte{5, 200}, x.x); !bytes.Equal(b, join([]byte{5, 200}, x.b)) {
			t.Errorf("PutResult(.., %+v) = %v", x.x, b)
		}
		r := codec.Read(join(x.b, []byte{9}))
		if y := op.TakeResult(r); y != x.back || r.Left() != 1 || r.Err() != api.OK {
			t.Errorf("TakeResult of %v: %+v, %d", x.b, y, r.Err())
		}
		for n := range x.b {
			failedResult(t, x.b[:n], api.ErrCut)
		}
	}
	b := op.PutResult(nil, api.Result{Err: math.MaxInt, Offset: math.MaxInt64}) // put, but not taken
	if !bytes.Equal(b, join(codec.PutNum(nil, math.MaxInt), codec.PutNum(nil, math.MaxInt64))) {
		t.Errorf("PutResult of great numbers: %v", b)
	}
	failedResult(t, b, api.ErrNum)
}

// failedResult tells where TakeResult does not fail with an error, leaving nothing.
func failedResult(t *testing.T, b []byte, e api.Errno) {
	t.Helper()
	r := codec.Read(b)
	if x := op.TakeResult(r); x != (api.Result{}) || r.Err() != e || r.Left() != 0 {
		t.Errorf("TakeResult of %v: %+v, %d, want %d", b, x, r.Err(), e)
	}
}

// P6.3: results above their most, and numbers of a form that is not the one form.
func TestWrongResults(t *testing.T) {
	for _, b := range [][]byte{
		join(codec.PutNum(nil, mostErr+1), []byte{0}),
		join(codec.PutNum(nil, math.MaxUint64), []byte{0}),
		join([]byte{60}, codec.PutNum(nil, api.MaxNum+1)),
		join([]byte{0}, codec.PutNum(nil, 1<<63)),
		{128, 0, 0}, {0, 128, 0}, {188, 0, 3}, {60, 131, 0},
	} {
		failedResult(t, b, api.ErrNum)
	}
}

// THE BOUND: b is copied once or twice, not anew for each part.
func TestPutNearLinear(t *testing.T) {
	b := make([]byte, 1<<20)
	o := api.Op{Kind: api.OpPublish, Topic: "t", Records: records(4, 64)}
	var got []byte
	if m := allocated(func() { got = op.Put(b, o) }); len(got) != len(b)+len(form(o)) || m > 3<<20 {
		t.Errorf("%d bytes, with %d bytes of memory", len(got), m)
	}
	if m := allocated(func() { got = op.PutResult(b, api.Result{}) }); len(got) != len(b)+2 || m > 3<<20 {
		t.Errorf("%d bytes, with %d bytes of memory", len(got), m)
	}
}
