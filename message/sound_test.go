package message_test

import (
	"bytes"
	"math/rand"
	"slices"
	"testing"

	"bulla/api"
	"bulla/message"
)

// P10.4: Parse of Bytes is the message; what Parse takes has those bytes.
func TestThereAndBack(t *testing.T) {
	back := 0
	dice := rand.New(rand.NewSource(3))
	l, from := samples(), light()
	for range 4000 { // and such with this and that changed
		m := normal(from[dice.Intn(len(from))])
		k := knobs(&m)
		for range dice.Intn(4) {
			v := turns(k[dice.Intn(len(k))])
			v[dice.Intn(len(v))]()
		}
		l = append(l, m)
	}
	for _, m := range l {
		b, e := message.Bytes(m)
		if e != api.OK {
			continue
		}
		back++
		x, e := message.Parse(b)
		if e != api.OK || !same(x, m) || !message.Same(x, m) {
			t.Fatalf("Parse(%v) = %+v, %d, want %+v", b, x, e, m)
		}
		if c, e := message.Bytes(x); e != api.OK || !bytes.Equal(c, b) {
			t.Fatalf("Bytes of Parse(%v) = %v, %d", b, c, e)
		}
	}
	if back < 500 {
		t.Errorf("only %d went there and back", back)
	}
}

// P10.4: so of certificates, changes and proofs.
func TestPartsThereAndBack(t *testing.T) {
	for _, c := range certs() {
		thereAndBack(t, c, message.CertBytes, message.ParseCert)
	}
	for _, c := range someChanges() {
		thereAndBack(t, c, message.ChangeBytes, message.ParseChange)
	}
	for _, p := range proofs() {
		thereAndBack(t, p, message.ProofBytes, message.ParseProof)
	}
	thereAndBack(t, api.Cert{}, message.CertBytes, message.ParseCert)
	thereAndBack(t, emptied(api.Cert{}), message.CertBytes, message.ParseCert)
}

func thereAndBack[T any](t *testing.T, x T, put func(T) ([]byte, api.Errno), parse func([]byte) (T, api.Errno)) {
	t.Helper()
	b, e := put(x)
	y, f := parse(b)
	c, g := put(y)
	if e != api.OK || f != api.OK || g != api.OK || !same(x, y) || !bytes.Equal(b, c) {
		t.Fatalf("%+v, %d, there and back: %+v, %d", x, e, y, f)
	}
}

// P10.4: no two messages have the same bytes, and no message's bytes begin another one's.
func TestApart(t *testing.T) {
	var l [][]byte
	for _, m := range light() {
		b, _ := message.Bytes(m)
		l = append(l, b)
	}
	slices.SortFunc(l, bytes.Compare)
	for i := range l {
		if i > 0 && bytes.HasPrefix(l[i], l[i-1]) {
			t.Errorf("%v begins %v", l[i-1], l[i])
		}
	}
}

// R6: the same calls answer the same.
func TestSameAgain(t *testing.T) {
	for _, m := range append(samples(), full(), api.Msg{}) {
		for range 3 {
			b, e := message.Bytes(m)
			c, f := message.Bytes(normal(m))
			u, g := message.Unsigned(m)
			v, h := message.Unsigned(normal(m))
			if e != f || g != h || !bytes.Equal(b, c) || !bytes.Equal(u, v) {
				t.Errorf("another answer the second time: %+v", m)
			}
		}
	}
}
