package op_test

import (
	"strings"
	"testing"
	"unsafe"

	"bulla/api"
	"bulla/op"
)

// unlike are operations of which no two are the same, such as may be and others.
func unlike() []api.Op {
	return []api.Op{
		{}, {Kind: 1}, {Kind: -1}, {Kind: 5},
		{Topic: "t"}, {Group: "t"}, {Topic: "t", Group: "t"}, {Topic: "tt"}, {Topic: "\xff"}, {Topic: "\xfe"},
		{Offset: 1}, {Offset: -1}, {Offset: 1 << 32},
		{Records: []api.Record{{}}}, {Records: []api.Record{{}, {}}}, {Records: []api.Record{{0}}},
		{Records: []api.Record{{1, 2}, {3}}}, {Records: []api.Record{{1}, {2, 3}}}, {Records: []api.Record{{3}, {1, 2}}}, {Records: []api.Record{{1, 2, 3}}}, {Records: []api.Record{{1, 2}}},
		{Kind: 2, Topic: "t", Records: []api.Record{{9}}}, {Kind: 2, Topic: "t", Records: []api.Record{{8}}}, {Kind: 2, Topic: "u", Records: []api.Record{{9}}},
		{Kind: 3, Topic: "t", Group: "g", Offset: 7}, {Kind: 3, Topic: "g", Group: "t", Offset: 7}, {Kind: 3, Topic: "t", Group: "g", Offset: 8}, {Kind: 4, Topic: "t", Offset: 7},
	}
}

// P6.3: Same is field by field.
func TestSame(t *testing.T) {
	for i, a := range unlike() {
		for j, b := range unlike() {
			if op.Same(a, b) != (i == j) {
				t.Errorf("Same(%+v, %+v) = %v", a, b, i != j)
			}
		}
	}
	l := all()
	for i, a := range l[:len(l)-1] {
		b := l[i+1]
		if op.Same(a, b) != same(a, b) || !op.Same(a, a) {
			t.Fatalf("Same(%+v, %+v) = %v", a, b, op.Same(a, b))
		}
	}
}

// P6.3, R4: lists that are nil are the same as empty ones.
func TestSameOfNone(t *testing.T) {
	for _, x := range []struct{ a, b []api.Record }{
		{nil, []api.Record{}},
		{[]api.Record{nil}, []api.Record{{}}},
		{[]api.Record{{1}, nil}, []api.Record{{1}, {}}},
	} {
		a, b := api.Op{Kind: 2, Topic: "t", Records: x.a}, api.Op{Kind: 2, Topic: "t", Records: x.b}
		if !op.Same(a, b) || !op.Same(b, a) {
			t.Errorf("Same(%+v, %+v) = false", a, b)
		}
	}
}

// P6.3: a clone is the same operation, also of one that may not be.
func TestClone(t *testing.T) {
	for _, o := range append(all(), unlike()...) {
		if c := op.Clone(o); !same(c, o) {
			t.Fatalf("Clone(%+v) = %+v", o, c)
		}
	}
}

// P6.3, R3: what is written to a clone is not seen in what it was cloned from, nor the other way round.
func TestCloneWrittenTo(t *testing.T) {
	one := []byte{1, 2, 3, 4, 5, 6}
	fresh := func() api.Op {
		return api.Op{Kind: 2, Topic: "t", Group: "g", Offset: 9, Records: []api.Record{{1, 2}, {}, {3}, nil, {1, 2, 3}}}
	}
	o := fresh()
	c := op.Clone(o)
	scribble(c)
	if !same(o, fresh()) {
		t.Errorf("what is written to a clone is seen: %+v", o)
	}
	c = op.Clone(o)
	scribble(o)
	if !same(c, fresh()) {
		t.Errorf("a clone sees what is written: %+v", c)
	}
	o = api.Op{Records: []api.Record{one[:2], one[:3], one[2:4]}} // records in one memory
	c = op.Clone(o)
	c.Records[0][0] = 9
	_ = append(c.Records[1], 9)
	if !same(c, api.Op{Records: []api.Record{{9, 2}, {1, 2, 3}, {3, 4}}}) || !same(o, api.Op{Records: []api.Record{{1, 2}, {1, 2, 3}, {3, 4}}}) {
		t.Errorf("a clone's records share memory: %+v, %+v", c, o)
	}
	long := [4]api.Record{{1}, {2}, {3}, {4}}
	c = op.Clone(api.Op{Records: long[:2]})
	_ = append(c.Records, api.Record{9})
	if long[2][0] != 3 {
		t.Error("a clone's list runs into what it was cloned from")
	}
}

// P6.3: a clone's texts don't hold on to the memory that they were cut from.
func TestCloneTexts(t *testing.T) {
	long := strings.Repeat("x", 1<<10)
	c := op.Clone(api.Op{Topic: long[:4], Group: long[5:9]})
	if c.Topic != "xxxx" || c.Group != "xxxx" || unsafe.StringData(c.Topic) == unsafe.StringData(long) || unsafe.StringData(c.Group) == unsafe.StringData(long[5:]) {
		t.Errorf("Clone: %+v", c)
	}
}

// R3: nothing that is asked of an operation writes to it.
func TestAsksKeepOff(t *testing.T) {
	for i := range unlike() {
		a, b := unlike()[i], unlike()[i]
		op.Check(a)
		op.Same(a, b)
		op.Clone(a)
		op.Bytes(a)
		op.Put(nil, a)
		if !same(a, unlike()[i]) || !same(b, unlike()[i]) {
			t.Errorf("what was asked was written to: %+v", a)
		}
	}
}
