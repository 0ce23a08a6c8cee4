package message_test

import (
	"bytes"
	"reflect"
	"slices"
	"strings"
	"testing"
	"unsafe"

	"bulla/api"
	"bulla/message"
)

// toldSame tells where Same of two messages, either way, is not what the tests' own words say.
func toldSame(t *testing.T, a, b api.Msg) bool {
	t.Helper()
	want := same(a, b)
	if message.Same(a, b) != want || message.Same(b, a) != want {
		t.Fatalf("Same(%+v, %+v) is not %v", a, b, want)
	}
	return want
}

// P10.3: messages that are the same, such as may be and others.
func TestSame(t *testing.T) {
	l := append(samples(), full(), api.Msg{}, api.Msg{Kind: -1}, api.Msg{Kind: 13})
	for i, a := range l {
		if !toldSame(t, a, a) || !toldSame(t, a, normal(a)) || !toldSame(t, a, emptied(a)) {
			t.Errorf("%d: not the same as itself", i)
		}
		for j, b := range l {
			if toldSame(t, a, b) != (i == j) {
				t.Errorf("%d and %d", i, j)
			}
		}
	}
}

// P10.3: messages that are unlike in one field alone, of no Kind and of each.
func TestSameOneField(t *testing.T) {
	unlike := 0
	for _, m := range append(normal(slices.Concat(ordinary(), small())), full(), api.Msg{}) {
		for i := range knobs(&m) {
			for j := range turns(knobs(&m)[i]) {
				x := normal(m)
				turns(knobs(&x)[i])[j]()
				if !toldSame(t, m, x) {
					unlike++
				}
			}
		}
	}
	if unlike < 10000 {
		t.Errorf("only %d were unlike", unlike)
	}
}

// P10.3: bytes that are unlike in one place alone.
func TestSameOneByte(t *testing.T) {
	m := full()
	m.State, m.Proof.Record = bytes.Repeat([]byte{7}, 40), bytes.Repeat([]byte{7}, 40)
	for i := range 40 {
		x := normal(m)
		x.State[i]++
		y := normal(m)
		y.Proof.Record[i]--
		if message.Same(m, x) || message.Same(m, y) || message.Same(x, y) {
			t.Errorf("Same of bytes that are unlike at %d", i)
		}
	}
}

// P10.3, R4: empty and nil lists are the same; one that is empty and one that is not are unlike.
func TestSameEmpty(t *testing.T) {
	if !message.Same(api.Msg{}, emptied(api.Msg{})) || !message.Same(emptied(api.Msg{}), api.Msg{}) {
		t.Error("an empty list is not nil")
	}
	m := full()
	for _, v := range knobs(&m) {
		if v.Kind() == reflect.Slice && v.CanSet() {
			was := reflect.ValueOf(v.Interface())
			v.SetZero()
			none := normal(m)
			v.Set(reflect.MakeSlice(v.Type(), 0, 4))
			if !message.Same(m, none) || !message.Same(none, m) {
				t.Errorf("an empty %s is not nil", v.Type())
			}
			v.Set(was)
		}
	}
}

// P10.3: a clone is the same, in memory of its own, whatever may be; also of no Kind.
func TestClone(t *testing.T) {
	for _, m := range append(samples(), full(), api.Msg{}, emptied(full()), emptied(api.Msg{})) {
		first := normal(m)
		held, written := behind(m)
		c := message.Clone(held)
		if !same(c, first) || !message.Same(c, first) || !same(held, first) || written() {
			t.Fatalf("Clone(%+v) = %+v", first, c)
		}
		d := message.Clone(held)
		scribble(&c)
		if !same(held, first) || !same(d, first) || written() {
			t.Fatalf("what is written to a clone is seen: %+v", held)
		}
		scribble(&held)
		if !same(d, first) {
			t.Fatalf("a clone sees what is written to the message: %+v", d)
		}
		apart(t, &d)
	}
}

// apart tells where two lists of x, which is a pointer, share memory, also behind what they hold.
func apart(t *testing.T, x any) {
	t.Helper()
	type piece struct{ from, to uintptr }
	var l []piece
	for _, v := range knobs(x) {
		if v.Kind() == reflect.Slice && v.Cap() > 0 {
			l = append(l, piece{v.Pointer(), v.Pointer() + uintptr(v.Cap())*v.Type().Elem().Size()})
		}
	}
	slices.SortFunc(l, func(a, b piece) int { return int(a.from) - int(b.from) })
	for i := range l {
		if i > 0 && l[i-1].to > l[i].from {
			t.Fatalf("two lists share memory in %+v", x)
		}
	}
}

// R3: what is handed in is not written to, nor is what stands behind it; what is answered is nobody else's.
func TestBytesKeepsOff(t *testing.T) {
	for _, m := range append(samples(), full(), msg(7, func(m *api.Msg) { m.Changes[0].Sign = api.Sign{} })) {
		first := normal(m)
		held, written := behind(m)
		message.Check(held)
		b, _ := message.Bytes(held)
		u, _ := message.Unsigned(held)
		message.Same(held, held)
		if !same(held, first) || written() {
			t.Fatalf("what was handed in was written to: %+v", first)
		}
		b1, u1 := bytes.Clone(b), bytes.Clone(u)
		scribble(&held)
		if !bytes.Equal(b, b1) || !bytes.Equal(u, u1) {
			t.Fatalf("bytes see what is written to the message of Kind %d", m.Kind)
		}
		held, written = behind(m)
		b, _ = message.Bytes(held)
		u, _ = message.Unsigned(held)
		scribble(&b)
		if !same(held, first) || written() || !bytes.Equal(u, u1) {
			t.Fatalf("what is written to bytes is seen: %+v", held)
		}
		scribble(&u)
		if !same(held, first) || written() {
			t.Fatalf("what is written to bytes is seen: %+v", held)
		}
		again, _ := message.Bytes(held)
		if !bytes.Equal(again, b1) {
			t.Fatalf("other bytes the second time of Kind %d", m.Kind)
		}
	}
}

// R3: so of certificates, changes and proofs.
func TestPartsKeepOff(t *testing.T) {
	for _, c := range append(certs(), api.Cert{Signs: signs(2)}) {
		keepsOff(t, c, message.CertBytes)
		keepsOff(t, c, func(c api.Cert) ([]byte, api.Errno) { return nil, message.CheckCert(c) })
		handsOut(t, modelOf(c).b, message.ParseCert)
	}
	for _, c := range append(someChanges(), change(9)) {
		keepsOff(t, c, message.ChangeBytes)
		keepsOff(t, c, message.ChangeBody)
		keepsOff(t, c, func(c api.Change) ([]byte, api.Errno) { return nil, message.CheckChange(c) })
		handsOut(t, modelOf(c).b, message.ParseChange)
	}
	for _, p := range append(proofs(), api.Proof{Path: make([]api.Digest, 4)}) {
		keepsOff(t, p, message.ProofBytes)
		keepsOff(t, p, func(p api.Proof) ([]byte, api.Errno) { return nil, message.CheckProof(p) })
		handsOut(t, modelOf(p).b, message.ParseProof)
	}
	for _, m := range samples() {
		handsOut(t, modelOf(m).b, message.Parse)
	}
}

// keepsOff tells where a call writes to what is handed in, or answers what its owner can see or change.
func keepsOff[T any](t *testing.T, x T, call func(T) ([]byte, api.Errno)) {
	t.Helper()
	first := normal(x)
	held, written := behind(x)
	b, e := call(held)
	want := bytes.Clone(b)
	if !same(held, first) || written() {
		t.Fatalf("what was handed in was written to: %+v", first)
	}
	scribble(&b)
	if !same(held, first) || written() {
		t.Fatalf("what is written to bytes is seen: %+v", held)
	}
	b, f := call(held)
	scribble(&held)
	if !bytes.Equal(b, want) || e != f {
		t.Fatalf("bytes see what is written to what they were made of: %+v", first)
	}
}

// handsOut tells where what is parsed is somebody else's.
func handsOut[T any](t *testing.T, b []byte, parse func([]byte) (T, api.Errno)) {
	t.Helper()
	held := append(bytes.Clone(b), 7, 7, 7)[:len(b)]
	x, e := parse(held)
	y, f := parse(held)
	want := normal(x)
	if e != f || !bytes.Equal(held[:cap(held)][:len(b)+3], join(b, []byte{7, 7, 7})) {
		t.Fatalf("Parse wrote to what was handed in, or answers something else the second time: %d, %d", e, f)
	}
	apart(t, &y)
	scribble(&x)
	if !bytes.Equal(held, b) || !same(y, want) {
		t.Fatalf("what is written to what was parsed is seen: %+v", y)
	}
	scribble(&held)
	if !same(y, want) {
		t.Fatalf("what was parsed sees what is written to its bytes: %+v", y)
	}
}

// P10.3: memory of its own is that of the names, too: a clone holds on to no long text that a short name was cut from.
func TestCloneNames(t *testing.T) {
	long := strings.Repeat("x", 1<<16)
	m := api.Msg{Topic: long[:4], Proof: api.Proof{Topic: long[4:8]}}
	c := message.Clone(m)
	if !message.Same(c, m) || unsafe.StringData(c.Topic) == unsafe.StringData(m.Topic) || unsafe.StringData(c.Proof.Topic) == unsafe.StringData(m.Proof.Topic) {
		t.Error("a clone's names are pieces of what they were cut from")
	}
}

// THE BOUND: Same and Clone look at each thing once.
func TestSameGreat(t *testing.T) {
	m := full()
	m.State = make([]byte, 1<<22)
	m.Entries = make([]api.Entry, 1<<16)
	m.Topic = strings.Repeat("x", 1<<22)
	var c api.Msg
	if used := allocated(func() { c = message.Clone(m) }); used > 40<<20 {
		t.Errorf("Clone: %d bytes of memory", used)
	}
	if used := allocated(func() {
		if !message.Same(m, c) {
			t.Error("a clone is not the same")
		}
		c.State[1<<22-1] = 1
		if message.Same(m, c) {
			t.Error("the last byte does not count")
		}
	}); used > 1<<16 {
		t.Errorf("Same: %d bytes of memory", used)
	}
}
