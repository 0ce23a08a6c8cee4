package op_test

import (
	"math"
	"testing"

	"bulla/api"
	"bulla/op"
)

// P6.1: what may be, and each error, in the chapter's order.
func TestCheck(t *testing.T) {
	long := runes(17, 'x')
	for _, x := range []struct {
		o api.Op
		e api.Errno
	}{
		{api.Op{}, api.OK},
		{api.Op{Records: []api.Record{}}, api.OK},
		{api.Op{Kind: api.OpCreate, Topic: "t"}, api.OK},
		{api.Op{Kind: api.OpCreate, Topic: "t", Records: []api.Record{}}, api.OK},
		{api.Op{Kind: api.OpPublish, Topic: "t", Records: []api.Record{{9}}}, api.OK},
		{api.Op{Kind: api.OpPublish, Topic: "t", Records: []api.Record{nil}}, api.OK},
		{api.Op{Kind: api.OpCommit, Topic: "t", Group: "g"}, api.OK},
		{api.Op{Kind: api.OpCommit, Topic: "t", Group: "t", Offset: 7, Records: []api.Record{}}, api.OK},
		{api.Op{Kind: api.OpTrim, Topic: "t"}, api.OK},
		{api.Op{Kind: api.OpTrim, Topic: "t", Offset: 1 << 53}, api.OK},

		{api.Op{Kind: 5}, api.ErrOp},
		{api.Op{Kind: -1}, api.ErrOp},
		{api.Op{Kind: math.MinInt, Topic: "t"}, api.ErrOp},
		{api.Op{Kind: 256 + api.OpCreate, Topic: "t"}, api.ErrOp},
		{api.Op{Kind: 5, Topic: long}, api.ErrOp},

		{api.Op{Topic: "t"}, api.ErrOp},
		{api.Op{Group: "g"}, api.ErrOp},
		{api.Op{Offset: 1}, api.ErrOp},
		{api.Op{Offset: -1}, api.ErrOp},
		{api.Op{Records: []api.Record{nil}}, api.ErrOp},
		{api.Op{Kind: api.OpCreate, Topic: "t", Group: "g"}, api.ErrOp},
		{api.Op{Kind: api.OpCreate, Topic: "t", Offset: 1}, api.ErrOp},
		{api.Op{Kind: api.OpCreate, Topic: "t", Records: []api.Record{{}}}, api.ErrOp},
		{api.Op{Kind: api.OpPublish, Topic: "t", Group: "g", Records: records(1, 1)}, api.ErrOp},
		{api.Op{Kind: api.OpPublish, Topic: "t", Offset: 1, Records: records(1, 1)}, api.ErrOp},
		{api.Op{Kind: api.OpCommit, Topic: "t", Group: "g", Records: records(1, 0)}, api.ErrOp},
		{api.Op{Kind: api.OpTrim, Topic: "t", Group: "g"}, api.ErrOp},
		{api.Op{Kind: api.OpTrim, Topic: "t", Records: records(1, 1)}, api.ErrOp},

		{api.Op{Kind: api.OpCreate}, api.ErrName},
		{api.Op{Kind: api.OpCreate, Topic: long}, api.ErrName},
		{api.Op{Kind: api.OpPublish, Records: records(1, 1)}, api.ErrName},
		{api.Op{Kind: api.OpCommit, Topic: "t"}, api.ErrName},
		{api.Op{Kind: api.OpCommit, Group: "g"}, api.ErrName},
		{api.Op{Kind: api.OpCommit, Topic: "t", Group: "a/b"}, api.ErrName},
		{api.Op{Kind: api.OpCommit, Topic: "a b", Group: "g"}, api.ErrName},
		{api.Op{Kind: api.OpTrim, Topic: "\xff"}, api.ErrName},

		{api.Op{Kind: api.OpPublish, Topic: "t"}, api.ErrRecord},
		{api.Op{Kind: api.OpPublish, Topic: "t", Records: []api.Record{}}, api.ErrRecord},
		{api.Op{Kind: api.OpPublish, Topic: "t", Records: records(4, 64)}, api.OK},
		{api.Op{Kind: api.OpPublish, Topic: "t", Records: records(5, 0)}, api.ErrRecord},
		{api.Op{Kind: api.OpPublish, Topic: "t", Records: records(1, 65)}, api.ErrRecord},
		{api.Op{Kind: api.OpPublish, Topic: "t", Records: []api.Record{{}, {}, {}, record(65)}}, api.ErrRecord},

		{api.Op{Kind: api.OpCommit, Topic: "t", Group: "g", Offset: -1}, api.ErrOp},
		{api.Op{Kind: api.OpCommit, Topic: "t", Group: "g", Offset: api.MaxNum + 1}, api.ErrOp},
		{api.Op{Kind: api.OpTrim, Topic: "t", Offset: -1}, api.ErrOp},
		{api.Op{Kind: api.OpTrim, Topic: "t", Offset: math.MaxInt64}, api.ErrOp},
	} {
		if e := op.Check(x.o); e != x.e {
			t.Errorf("Check(%+v) = %d, want %d", x.o, e, x.e)
		}
	}
}

// P6.1: where several errors apply, the first of the chapter is told.
func TestFirstError(t *testing.T) {
	long := runes(17, 'x')
	for _, x := range []struct {
		o api.Op
		e api.Errno
	}{
		{api.Op{Kind: api.OpCreate, Topic: long, Offset: 1}, api.ErrOp},
		{api.Op{Kind: api.OpCreate, Topic: "", Records: records(5, 65)}, api.ErrOp},
		{api.Op{Kind: api.OpPublish, Topic: "/", Group: "g"}, api.ErrOp},
		{api.Op{Kind: api.OpPublish, Topic: "t", Offset: -1}, api.ErrOp},
		{api.Op{Kind: api.OpPublish, Topic: "t", Offset: 1, Records: records(5, 65)}, api.ErrOp},
		{api.Op{Kind: api.OpCommit, Topic: "/", Group: "/", Records: records(5, 65)}, api.ErrOp},
		{api.Op{Kind: api.OpPublish, Topic: "/"}, api.ErrName},
		{api.Op{Kind: api.OpPublish, Topic: long, Records: records(5, 65)}, api.ErrName},
		{api.Op{Kind: api.OpCommit, Topic: "/", Group: "g", Offset: -1}, api.ErrName},
		{api.Op{Kind: api.OpCommit, Topic: "t", Group: long, Offset: api.MaxNum + 1}, api.ErrName},
		{api.Op{Kind: api.OpTrim, Topic: "", Offset: -1}, api.ErrName},
	} {
		if e := op.Check(x.o); e != x.e {
			t.Errorf("Check(%+v) = %d, want %d", x.o, e, x.e)
		}
	}
}

// P6.1: each kind with each of many fields.
func TestCheckAll(t *testing.T) {
	for _, o := range all() {
		if e := op.Check(o); e != check(o) {
			t.Fatalf("Check(%+v) = %d, want %d", o, e, check(o))
		}
	}
}

// P6.1: of records each number, of each length.
func TestCheckRecords(t *testing.T) {
	for n := range 12 {
		for each := range 80 {
			o := api.Op{Kind: api.OpPublish, Topic: "t", Records: records(n, each)}
			want := api.ErrRecord
			if n >= 1 && n <= 4 && each <= 64 {
				want = api.OK
			}
			if e := op.Check(o); e != want {
				t.Errorf("Check of %d records of %d bytes: %d, want %d", n, each, e, want)
			}
		}
	}
}
