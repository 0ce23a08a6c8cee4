package message_test

import (
	"bytes"
	"math"
	"math/rand"
	"slices"
	"strings"
	"testing"

	"bulla/api"
	"bulla/message"
)

// P10.2: a message's bytes, told one by one, there and back: the chapter's example, and one of each Kind.
func TestForms(t *testing.T) {
	s := sign(1, 5)
	create := api.Batch{{Request: api.Request{Client: 2, Time: 7, Op: api.Op{Kind: api.OpCreate, Topic: "t"}}, Sign: sign(15, 1)}}
	created := []byte{1, 5, 2, 7, 1, 1, 116, 15, 1}
	c := api.Cert{Seq: 4, Digest: 9, Signs: []api.Sign{s, sign(2, 6)}}
	certified := []byte{4, 9, 2, 1, 5, 2, 6}
	x := api.Change{View: 2, From: 1, Cert: c, Above: []api.Prepared{{View: 1, Seq: 5, Digest: 3, First: sign(0, 8), Signs: []api.Sign{s}, Batch: create}, {Seq: 6, Digest: 130, First: s}}, Sign: sign(1, 300)}
	changed := join([]byte{2, 1}, certified, []byte{2}, []byte{1, 5, 3, 0, 8, 1, 1, 5}, created, []byte{0, 6, 130, 1, 1, 5, 0, 0}, []byte{1, 172, 2})
	p := api.Proof{Topic: "é", Offset: 128, Record: api.Record{7, 8}, Headers: []api.Header{{Seq: 4, Prev: 1, Batch: 2, Root: 3, State: 5}, {Seq: 5, State: 128}}, Index: 1, Count: 2, Path: []api.Digest{0, 11}, Cert: c}
	proved := join([]byte{2, 195, 169, 128, 1, 2, 7, 8, 2, 4, 1, 2, 3, 5, 5, 0, 0, 0, 128, 1, 1, 2, 2, 0, 11}, certified)
	for _, x := range []struct {
		m api.Msg
		b []byte
	}{
		{api.Msg{Kind: api.MsRequest, Batch: create}, join([]byte{1}, created)},
		{api.Msg{Kind: api.MsPrePrepare, From: 1, View: 5, Seq: 3, Digest: 9, Batch: create, Sign: s}, join([]byte{2, 1, 5, 3, 9}, created, []byte{1, 5})},
		{api.Msg{Kind: api.MsPrePrepare, From: 12, Seq: 300, Digest: 9, Sign: s}, []byte{2, 12, 0, 172, 2, 9, 0, 1, 5}},
		{api.Msg{Kind: api.MsPrepare, From: 1, Seq: 3, Digest: 9, Sign: s}, []byte{3, 1, 0, 3, 9, 1, 5}},
		{api.Msg{Kind: api.MsCommit, From: 2, View: 1 << 53, Seq: 3, Digest: 128, Sign: s}, []byte{4, 2, 128, 128, 128, 128, 128, 128, 128, 16, 3, 128, 1, 1, 5}},
		{api.Msg{Kind: api.MsReply, From: 1, View: 2, Client: 3, Time: 4, Result: api.Result{Err: 60, Offset: 300}, Sign: s}, []byte{5, 1, 2, 3, 4, 60, 172, 2, 1, 5}},
		{api.Msg{Kind: api.MsCheckpoint, From: 1, Seq: 4, Digest: 3, Sign: s}, []byte{6, 1, 4, 3, 1, 5}},
		{api.Msg{Kind: api.MsViewChange, From: 1, View: 2, Changes: []api.Change{x}}, join([]byte{7}, changed)},
		{api.Msg{Kind: api.MsNewView, From: 2, View: 3, Changes: []api.Change{x, {View: 1, Sign: s}}, Entries: []api.Entry{{View: 3, Seq: 5, Batch: create, Sign: sign(2, 2)}, {Seq: 6, Sign: s}}, Sign: sign(2, 4)},
			join([]byte{8, 2, 3, 2}, changed, []byte{1, 0, 0, 0, 0, 0, 1, 5}, []byte{2, 3, 5}, created, []byte{2, 2, 0, 6, 0, 1, 5, 2, 4})},
		{api.Msg{Kind: api.MsFetch, From: 1, Seq: 8, Sign: s}, []byte{9, 1, 8, 1, 5}},
		{api.Msg{Kind: api.MsSnap, From: 1, Cert: c, State: []byte{200, 1}}, join([]byte{10, 1}, certified, []byte{2, 200, 1})},
		{api.Msg{Kind: api.MsSnap}, []byte{10, 0, 0, 0, 0, 0}},
		{api.Msg{Kind: api.MsAsk, Client: 3, Topic: "t", Offset: 4}, []byte{11, 3, 1, 116, 4}},
		{api.Msg{Kind: api.MsProof, From: 1, Proof: p}, join([]byte{12, 1}, proved)},
	} {
		if b, e := message.Bytes(x.m); e != api.OK || !bytes.Equal(b, x.b) {
			t.Errorf("Bytes(%+v) = %v, %d, want %v", x.m, b, e, x.b)
		}
		if m, e := message.Parse(x.b); e != api.OK || !same(m, x.m) {
			t.Errorf("Parse(%v) = %+v, %d, want %+v", x.b, m, e, x.m)
		}
	}
	if b, e := message.CertBytes(c); e != api.OK || !bytes.Equal(b, certified) {
		t.Errorf("CertBytes: %v, %d", b, e)
	}
	if y, e := message.ParseCert(certified); e != api.OK || !same(y, c) {
		t.Errorf("ParseCert: %+v, %d", y, e)
	}
	if b, e := message.ChangeBytes(x); e != api.OK || !bytes.Equal(b, changed) {
		t.Errorf("ChangeBytes: %v, %d", b, e)
	}
	if y, e := message.ParseChange(changed); e != api.OK || !same(y, x) {
		t.Errorf("ParseChange: %+v, %d", y, e)
	}
	if b, e := message.ProofBytes(p); e != api.OK || !bytes.Equal(b, proved) {
		t.Errorf("ProofBytes: %v, %d", b, e)
	}
	if y, e := message.ParseProof(proved); e != api.OK || !same(y, p) {
		t.Errorf("ParseProof: %+v, %d", y, e)
	}
}

// failed tells where Parse does not refuse bytes with an error, and with nothing beside it.
func failed(t *testing.T, b []byte, e api.Errno) {
	t.Helper()
	if m, f := message.Parse(b); f != e || !isZero(m) {
		t.Errorf("Parse(%v) = %+v, %d, want %d", b, m, f, e)
	}
}

func failedCert(t *testing.T, b []byte, e api.Errno) {
	t.Helper()
	if c, f := message.ParseCert(b); f != e || !isZero(c) {
		t.Errorf("ParseCert(%v) = %+v, %d, want %d", b, c, f, e)
	}
}

func failedChange(t *testing.T, b []byte, e api.Errno) {
	t.Helper()
	if c, f := message.ParseChange(b); f != e || !isZero(c) {
		t.Errorf("ParseChange(%v) = %+v, %d, want %d", b, c, f, e)
	}
}

func failedProof(t *testing.T, b []byte, e api.Errno) {
	t.Helper()
	if p, f := message.ParseProof(b); f != e || !isZero(p) {
		t.Errorf("ParseProof(%v) = %+v, %d, want %d", b, p, f, e)
	}
}

// P10.2: bytes that are cut short at every place, and such with more behind them.
func TestCut(t *testing.T) {
	for _, m := range slices.Concat(ordinary(), small()) {
		b := modelOf(m).b
		for n := range b {
			failed(t, b[:n], api.ErrCut)
		}
		failed(t, append(b, 0), api.ErrRest)
		failed(t, join(b, b), api.ErrRest)
	}
	for _, c := range certs() {
		b := modelOf(c).b
		for n := range b {
			failedCert(t, b[:n], api.ErrCut)
		}
		failedCert(t, append(b, 0), api.ErrRest)
	}
	b := modelOf(change(2)).b
	for n := range b {
		failedChange(t, b[:n], api.ErrCut)
	}
	failedChange(t, append(b, 0), api.ErrRest)
	b = modelOf(proof()).b
	for n := range b {
		failedProof(t, b[:n], api.ErrCut)
	}
	failedProof(t, append(b, 0), api.ErrRest)
	for _, m := range light() { // the long ones at some places
		b := modelOf(m).b
		for n := 0; n < len(b); n += 1 + len(b)/100 {
			failed(t, b[:n], api.ErrCut)
		}
	}
}

// long is a number of a form that is not the one form.
func long(n byte) []byte {
	return []byte{n | 128, 0}
}

func number(n uint64) []byte {
	return num(nil, n)
}

// P10.2: numbers of certificates: below their least, above their greatest, of another form; certificates of Seq 0; lists.
func TestParseCert(t *testing.T) {
	for _, x := range []struct {
		b []byte
		e api.Errno
	}{
		{[]byte{0, 0, 0}, api.OK},
		{[]byte{1, 1, 0}, api.OK},
		{join(number(1<<53), number(1<<53), []byte{0}), api.OK},
		{join([]byte{1, 1, 13}, bytes.Repeat([]byte{20, 1}, 13)), api.OK},

		{[]byte{0, 1, 0}, api.ErrMessage}, {[]byte{0, 1}, api.ErrMessage}, {[]byte{0, 9, 1, 1, 5}, api.ErrMessage}, {[]byte{0, 1, 128, 0}, api.ErrMessage},
		{join([]byte{0}, number(1<<53), []byte{0}), api.ErrMessage}, {join([]byte{0}, number(1<<53+1), []byte{0}), api.ErrNum},
		{[]byte{0, 0, 1, 1, 5}, api.ErrMessage}, {[]byte{0, 0, 1}, api.ErrMessage}, {[]byte{0, 0, 14}, api.ErrMessage}, {[]byte{0, 0, 1, 21, 0}, api.ErrMessage},
		{[]byte{1, 0, 0}, api.ErrMessage}, {[]byte{1, 0}, api.ErrMessage}, {[]byte{1, 0, 14}, api.ErrMessage}, {[]byte{1, 0, 1, 21}, api.ErrMessage},
		{join([]byte{1, 1, 14}, bytes.Repeat([]byte{20, 1}, 14)), api.ErrMessage}, {[]byte{1, 1, 14}, api.ErrMessage}, {[]byte{1, 1, 14, 21}, api.ErrMessage},
		{join([]byte{1, 1}, number(1<<53)), api.ErrMessage}, {join([]byte{1, 1}, number(1<<53+1)), api.ErrNum}, {join([]byte{1, 1}, number(math.MaxUint64)), api.ErrNum},

		{join(number(1<<53+1), []byte{1, 0}), api.ErrNum}, {join(number(1<<63), []byte{1, 0}), api.ErrNum}, {join(number(math.MaxUint64), []byte{1, 0}), api.ErrNum},
		{join([]byte{1}, number(1<<53+1), []byte{0}), api.ErrNum},
		{join(long(4), []byte{9, 0}), api.ErrNum}, {join([]byte{4}, long(9), []byte{0}), api.ErrNum}, {join([]byte{4, 9}, long(0)), api.ErrNum},
		{join([]byte{4, 9}, long(1), []byte{1, 5}), api.ErrNum}, {join([]byte{0}, long(0), []byte{0}), api.ErrNum}, {join(long(0), []byte{0, 0}), api.ErrNum}, {join([]byte{0, 0}, long(0)), api.ErrNum},

		{[]byte{4, 9, 1, 21, 5}, api.ErrNum}, {[]byte{4, 9, 1, 1, 0}, api.ErrSign}, {[]byte{4, 9, 2, 1, 0, 21}, api.ErrSign}, {[]byte{4, 9, 2, 1, 0}, api.ErrSign}, {[]byte{4, 9, 2, 1, 1}, api.ErrCut},
		{[]byte{4, 9, 1, 1, 0, 7}, api.ErrSign}, {[]byte{4, 9, 1, 1, 1, 7}, api.ErrRest},
	} {
		if x.e != api.OK {
			failedCert(t, x.b, x.e)
		} else if _, e := message.ParseCert(x.b); e != api.OK {
			t.Errorf("ParseCert(%v): %d", x.b, e)
		}
		ahead := []byte{10, 12}
		if m, e := message.Parse(join(ahead, x.b, []byte{0})); (x.e == api.OK) != (e == api.OK) || e != api.OK && !isZero(m) {
			t.Errorf("Parse of a MsSnap with %v: %d, want %d", x.b, e, x.e)
		}
	}
}

// P10.2: what is wrong in view-changes and proofs, and which error is told: the first one, as the bytes are read.
func TestParseChange(t *testing.T) {
	good := []byte{1, 5, 3, 0, 8, 1, 1, 5, 0} // what was prepared
	ahead := []byte{2, 1, 0, 0, 0}
	of := func(l ...byte) []byte { return join(ahead, []byte{1}, l, []byte{1, 7}) }
	for _, x := range []struct {
		b []byte
		e api.Errno
	}{
		{of(good...), api.OK},
		{join(ahead, []byte{8}, bytes.Repeat(good, 8), []byte{1, 7}), api.OK},
		{join(ahead, []byte{9}, bytes.Repeat(good, 9), []byte{1, 7}), api.ErrMessage},
		{join(ahead, []byte{9}), api.ErrMessage},
		{join(ahead, []byte{9, 255}), api.ErrMessage},
		{[]byte{0, 1, 0, 0, 0, 0, 1, 7}, api.ErrMessage}, {[]byte{0}, api.ErrMessage}, {[]byte{0, 13}, api.ErrMessage},
		{[]byte{1, 13, 0, 0, 0, 0, 1, 7}, api.ErrNum}, {[]byte{1, 13}, api.ErrNum},
		{join(number(1<<53+1), []byte{1, 0, 0, 0, 0, 1, 7}), api.ErrNum},
		{[]byte{1, 1, 0, 1, 0, 0, 1, 7}, api.ErrMessage}, {[]byte{1, 1, 4, 9, 1, 1, 0}, api.ErrSign},
		{[]byte{1, 1, 0, 0, 0, 0, 1, 0}, api.ErrSign}, {[]byte{1, 1, 0, 0, 0, 0, 21, 1}, api.ErrNum}, {[]byte{1, 1, 0, 0, 0, 0}, api.ErrCut},
		{of(1, 0, 3, 0, 8, 0, 0), api.ErrMessage}, {of(1, 5, 0, 0, 8, 0, 0), api.ErrMessage}, {of(1, 5, 0, 0, 0), api.ErrMessage}, {of(1, 0, 128, 0), api.ErrMessage},
		{of(1, 5, 3, 0, 0, 0, 0), api.ErrSign}, {of(1, 5, 3, 21, 1, 0, 0), api.ErrNum}, {of(1, 5, 3, 0, 0, 14), api.ErrSign},
		{of(join([]byte{1, 5, 3, 0, 8, 14}, bytes.Repeat([]byte{1, 1}, 14), []byte{0})...), api.ErrMessage},
		{of(join([]byte{1, 5, 3, 0, 8, 13}, bytes.Repeat([]byte{1, 1}, 13), []byte{0})...), api.OK},
		{of(1, 5, 3, 0, 8, 1, 1, 0, 0), api.ErrSign}, {of(1, 5, 3, 0, 8, 0, 5), api.ErrNum}, {of(1, 5, 3, 0, 8, 0, 1, 3, 0, 0, 0, 13, 1), api.ErrRequest},
		{of(1, 5, 3, 0, 8, 0, 1, 4, 0, 1, 1, 0, 13, 1), api.ErrName}, {of(1, 5, 3, 0, 8, 0, 1, 3, 0, 1, 0, 13, 0), api.ErrSign},
		{of(1, 5, 3, 0, 8, 0, 2, 3, 0, 1, 0, 13, 1, 3, 0, 1, 0, 13, 1), api.ErrTwice},
	} {
		if x.e != api.OK {
			failedChange(t, x.b, x.e)
			failed(t, join([]byte{7}, x.b), x.e)
			failed(t, join([]byte{8, 1, 1, 1}, x.b), x.e)
		} else if _, e := message.ParseChange(x.b); e != api.OK {
			t.Errorf("ParseChange(%v): %d", x.b, e)
		}
	}
}

func TestParseProof(t *testing.T) {
	head, tail := []byte{1, 't', 0, 0, 0}, []byte{0, 0, 0, 0}
	name := func(s string) []byte { return join(text(nil, s), []byte{0, 0, 0, 0, 1}, tail) }
	for i, x := range []struct {
		b []byte
		e api.Errno
	}{
		{join(head, []byte{0, 1}, tail), api.OK},
		{name(strings.Repeat("\U0010ffff", 16)), api.OK}, {name(strings.Repeat("x", 16)), api.OK},
		{name(""), api.ErrName}, {name("a/b"), api.ErrName}, {name("\xff"), api.ErrName}, {name(strings.Repeat("x", 17)), api.ErrName}, {name(strings.Repeat("x", 64)), api.ErrName},
		{name(strings.Repeat("x", 65)), api.ErrNum}, {name(strings.Repeat("\U0010ffff", 17)), api.ErrNum}, {[]byte{0, 128, 0}, api.ErrName}, {[]byte{0}, api.ErrName}, {[]byte{1}, api.ErrCut}, {[]byte{65}, api.ErrNum},
		{join([]byte{1, 't'}, number(1<<53+1), []byte{0, 0, 0, 1}, tail), api.ErrNum},
		{join([]byte{1, 't', 0, 64}, make([]byte, 64), []byte{0, 0, 1}, tail), api.OK}, {join([]byte{1, 't', 0, 65}, make([]byte, 65), []byte{0, 0, 1}, tail), api.ErrNum},
		{join([]byte{1, 't', 0, 0, 64}, bytes.Repeat([]byte{1, 0, 0, 0, 0}, 64), []byte{0, 1}, tail), api.OK},
		{join([]byte{1, 't', 0, 0, 65}, bytes.Repeat([]byte{1, 0, 0, 0, 0}, 65), []byte{0, 1}, tail), api.ErrMessage}, {[]byte{1, 't', 0, 0, 65}, api.ErrMessage},
		{join([]byte{1, 't', 0, 0, 1, 0, 0, 0, 0, 0, 0, 1}, tail), api.ErrMessage}, {[]byte{1, 't', 0, 0, 1, 0}, api.ErrMessage}, {join([]byte{1, 't', 0, 0, 1, 1}, number(1<<53+1)), api.ErrNum},
		{join(head, []byte{0, 0}, tail), api.ErrMessage}, {join(head, []byte{1, 1}, tail), api.ErrMessage}, {join(head, []byte{15, 16}, tail), api.OK}, {join(head, []byte{16, 16}, tail), api.ErrMessage},
		{join(head, []byte{0, 17}, tail), api.ErrMessage}, {join(head, []byte{16, 17}, tail), api.ErrMessage}, {join(head, []byte{0, 17}), api.ErrMessage}, {join(head, []byte{0, 0}), api.ErrMessage},
		{join(head, []byte{16}), api.ErrCut}, {join(head, number(1<<53)), api.ErrCut}, {join(head, number(1<<53+1)), api.ErrNum}, // what it has to be below stands behind it
		{join(head, []byte{0}, number(1<<53), tail), api.ErrMessage}, {join(head, []byte{0}, number(1<<53+1), tail), api.ErrNum}, {join(head, []byte{16}, long(16)), api.ErrNum},
		{join(head, number(1<<53), number(1<<53), tail), api.ErrMessage}, {join(head, number(1<<32), number(1), tail), api.ErrMessage}, {join(head, number(0), number(1<<32+1), tail), api.ErrMessage},
		{join(head, []byte{0, 1, 8}, make([]byte, 8), []byte{0, 0, 0}), api.OK}, {join(head, []byte{0, 1, 9}, make([]byte, 9), []byte{0, 0, 0}), api.ErrMessage}, {join(head, []byte{0, 1, 9}), api.ErrMessage},
		{join(head, []byte{0, 1, 1}, number(1<<53), []byte{0, 0, 0}), api.OK}, {join(head, []byte{0, 1, 1}, number(1<<53+1), []byte{0, 0, 0}), api.ErrNum},
		{join(head, []byte{0, 1, 0, 0, 1, 0}), api.ErrMessage}, {join(head, []byte{0, 1, 0, 4, 9, 1, 1, 0}), api.ErrSign},
	} {
		if x.e != api.OK {
			failedProof(t, x.b, x.e)
			failed(t, join([]byte{12, 0}, x.b), x.e)
		} else if _, e := message.ParseProof(x.b); e != api.OK {
			t.Errorf("%d: ParseProof(%v): %d", i, x.b, e)
		}
	}
}

// P10.2: what is wrong in messages, by Kind, and which error is told.
func TestParse(t *testing.T) {
	one := []byte{3, 0, 1, 0, 13, 1} // a request, and its signature
	for _, x := range []struct {
		b []byte
		e api.Errno
	}{
		{[]byte{0}, api.ErrMessage}, {[]byte{13}, api.ErrMessage}, {[]byte{13, 255}, api.ErrMessage}, {number(256 + 3), api.ErrMessage}, {number(1<<32 + 3), api.ErrMessage}, {number(1 << 53), api.ErrMessage}, // Kinds
		{number(1<<53 + 1), api.ErrNum}, {number(math.MaxUint64), api.ErrNum}, {join(long(3), []byte{1, 0, 3, 9, 1, 5}), api.ErrNum}, {long(0), api.ErrNum}, {[]byte{128}, api.ErrCut}, {nil, api.ErrCut},

		{join([]byte{1, 1}, one), api.OK}, // requests
		{[]byte{1, 0}, api.ErrMessage}, {[]byte{1, 0, 0}, api.ErrMessage}, {join([]byte{1, 2}, one, []byte{3, 1, 1, 0, 13, 1}), api.ErrMessage}, {join([]byte{1, 2}, one, one), api.ErrTwice},
		{join([]byte{1, 2}, one), api.ErrCut}, {[]byte{1, 5}, api.ErrNum}, {[]byte{1, 1, 3, 0, 0, 0, 13, 1}, api.ErrRequest}, {[]byte{1, 1, 3, 0, 1, 0, 13, 0}, api.ErrSign}, {join([]byte{1}, long(1), one), api.ErrNum},
		{join([]byte{1, 1}, one, []byte{0}), api.ErrRest},

		{join([]byte{2, 0, 0, 1, 1, 1}, one, []byte{1, 5}), api.OK}, {[]byte{2, 0, 0, 1, 1, 0, 1, 5}, api.OK}, // about a batch
		{[]byte{2, 13}, api.ErrNum}, {[]byte{2, 0, 0, 0}, api.ErrMessage}, {[]byte{2, 0, 0, 1, 0}, api.ErrMessage}, {[]byte{2, 0, 0, 1, 1, 5}, api.ErrNum}, {[]byte{2, 0, 0, 1, 1, 0, 1, 0}, api.ErrSign},
		{join([]byte{2, 0, 0, 1, 1, 2}, one, one, []byte{1, 0}), api.ErrTwice}, {join([]byte{2, 0, 0, 1, 1}, long(0), []byte{1, 5}), api.ErrNum},
		{[]byte{3, 12, 0, 1, 1, 20, 1}, api.OK}, {[]byte{3, 13, 0, 1, 1, 20, 1}, api.ErrNum}, {[]byte{3, 0, 0, 0, 1, 1, 5}, api.ErrMessage}, {[]byte{3, 0, 0, 1, 0, 1, 5}, api.ErrMessage},
		{[]byte{3, 0, 0, 1, 1, 21, 5}, api.ErrNum}, {[]byte{3, 0, 0, 1, 1, 1, 0}, api.ErrSign}, {[]byte{3, 0, 0, 0}, api.ErrMessage}, {[]byte{3, 0, 0, 0, 128, 0}, api.ErrMessage}, {[]byte{3, 0, 0, 1, 0, 21}, api.ErrMessage},
		{join([]byte{3, 0}, number(1<<53+1), []byte{1, 1, 1, 5}), api.ErrNum}, {join([]byte{3, 0, 0}, number(1<<53+1), []byte{1, 1, 5}), api.ErrNum}, {join([]byte{3, 0, 0, 1}, number(1<<53+1), []byte{1, 5}), api.ErrNum},
		{join([]byte{3}, long(1), []byte{0, 3, 9, 1, 5}), api.ErrNum}, {join([]byte{3, 1}, long(0), []byte{3, 9, 1, 5}), api.ErrNum}, {join([]byte{3, 1, 0}, long(3), []byte{9, 1, 5}), api.ErrNum},
		{join([]byte{3, 1, 0, 3}, long(9), []byte{1, 5}), api.ErrNum}, {join([]byte{3, 1, 0, 3, 9}, long(1), []byte{5}), api.ErrNum}, {join([]byte{3, 1, 0, 3, 9, 1}, long(5)), api.ErrNum},
		{[]byte{4, 0, 0, 0, 1, 1, 5}, api.ErrMessage}, {[]byte{4, 0, 0, 1, 1, 1, 5, 0}, api.ErrRest},

		{[]byte{5, 0, 0, 7, 0, 0, 0, 1, 5}, api.OK}, {[]byte{5, 0, 0, 8, 0, 0, 0, 1, 5}, api.ErrNum}, {[]byte{5, 13}, api.ErrNum}, {join([]byte{5, 0, 0, 0}, number(1<<53+1)), api.ErrNum}, // replies
		{join([]byte{5, 0, 0, 0, 0}, number(1<<16), []byte{0, 1, 5}), api.OK}, {join([]byte{5, 0, 0, 0, 0}, number(1<<16+1), []byte{0, 1, 5}), api.ErrNum},
		{join([]byte{5, 0, 0, 0, 0, 0}, number(1<<53), []byte{1, 5}), api.OK}, {join([]byte{5, 0, 0, 0, 0, 0}, number(1<<53+1), []byte{1, 5}), api.ErrNum}, {[]byte{5, 0, 0, 0, 0, 0, 0, 1, 0}, api.ErrSign},
		{join([]byte{5, 0, 0, 0, 0}, long(0), []byte{0, 1, 5}), api.ErrNum},

		{[]byte{6, 0, 1, 1, 1, 5}, api.OK}, {[]byte{6, 0, 0}, api.ErrMessage}, {[]byte{6, 0, 1, 0}, api.ErrMessage}, {[]byte{6, 13}, api.ErrNum}, {[]byte{6, 0, 1, 1, 1, 0}, api.ErrSign}, // checkpoints

		{[]byte{8, 0, 1, 0, 0, 1, 5}, api.OK}, {[]byte{8, 0, 0}, api.ErrMessage}, {[]byte{8, 13}, api.ErrNum}, // new views
		{join([]byte{8, 0, 1, 13}, bytes.Repeat([]byte{1, 0, 0, 0, 0, 0, 1, 5}, 13), []byte{0, 1, 5}), api.OK}, {join([]byte{8, 0, 1, 14}, bytes.Repeat([]byte{1, 0, 0, 0, 0, 0, 1, 5}, 14), []byte{0, 1, 5}), api.ErrMessage},
		{[]byte{8, 0, 1, 14}, api.ErrMessage}, {[]byte{8, 0, 1, 0, 9}, api.ErrMessage}, {[]byte{8, 0, 1, 0, 9, 128, 0}, api.ErrMessage},
		{join([]byte{8, 0, 1, 0, 8}, bytes.Repeat([]byte{0, 1, 0, 1, 5}, 8), []byte{1, 5}), api.OK}, {join([]byte{8, 0, 1, 0, 9}, bytes.Repeat([]byte{0, 1, 0, 1, 5}, 9), []byte{1, 5}), api.ErrMessage},
		{[]byte{8, 0, 1, 0, 1, 0, 0}, api.ErrMessage}, {[]byte{8, 0, 1, 0, 1, 0, 1, 5}, api.ErrNum}, {[]byte{8, 0, 1, 0, 1, 0, 1, 0, 1, 0}, api.ErrSign}, {[]byte{8, 0, 1, 0, 0, 1, 0}, api.ErrSign},

		{[]byte{9, 0, 0, 1, 5}, api.OK}, {[]byte{9, 13}, api.ErrNum}, {join([]byte{9, 0}, number(1<<53+1)), api.ErrNum}, {[]byte{9, 0, 0, 1, 0}, api.ErrSign}, // fetches

		{[]byte{10, 0, 0, 0, 0, 0}, api.OK}, {[]byte{10, 13}, api.ErrNum}, {[]byte{10, 0, 0, 1}, api.ErrMessage}, {[]byte{10, 0, 0, 0, 0, 2, 1}, api.ErrCut}, // snaps
		{join([]byte{10, 0, 0, 0, 0}, number(1<<18)), api.ErrCut}, {join([]byte{10, 0, 0, 0, 0}, number(1<<18+1)), api.ErrNum}, {join([]byte{10, 0, 0, 0, 0}, long(0)), api.ErrNum}, {[]byte{10, 0, 0, 0, 0, 1, 1, 1}, api.ErrRest},

		{[]byte{11, 7, 1, 't', 0}, api.OK}, {[]byte{11, 8}, api.ErrNum}, {[]byte{11, 0, 0}, api.ErrName}, {[]byte{11, 0, 1, '/', 128, 0}, api.ErrName}, {join([]byte{11, 0, 1, 't'}, number(1<<53+1)), api.ErrNum}, // asks
		{join([]byte{11, 0}, text(nil, strings.Repeat("x", 64)), []byte{0}), api.ErrName}, {join([]byte{11, 0}, text(nil, strings.Repeat("x", 65)), []byte{0}), api.ErrNum},
		{join([]byte{11, 0}, text(nil, strings.Repeat("\U0010ffff", 16)), []byte{0}), api.OK}, {join([]byte{11, 0}, long(1), []byte{'t', 0}), api.ErrNum},

		{[]byte{12, 12, 1, 't', 0, 0, 0, 0, 1, 0, 0, 0, 0}, api.OK}, {[]byte{12, 13, 0}, api.ErrNum}, // proofs
	} {
		if x.e != api.OK {
			failed(t, x.b, x.e)
		} else if _, e := message.Parse(x.b); e != api.OK {
			t.Errorf("Parse(%v): %d", x.b, e)
		}
	}
}

// P10.2: forms of the most bytes that may be, and of one more.
func TestLong(t *testing.T) {
	m := great()[9]
	b, e := message.Bytes(m)
	if e != api.OK || len(b) != 1<<18 || !bytes.Equal(b, modelOf(m).b) {
		t.Fatalf("Bytes of the longest form: %d bytes, %d", len(b), e)
	}
	if x, e := message.Parse(b); e != api.OK || !same(x, m) {
		t.Errorf("Parse of the longest form: %d", e)
	}
	m.State = append(m.State, 1)
	if b, e := message.Bytes(m); e != api.ErrLong || b != nil || message.Check(m) != api.OK {
		t.Errorf("Bytes of a form that is one byte longer: %d bytes, %d", len(b), e)
	}
	if b, e := message.Unsigned(m); e != api.ErrLong || b != nil {
		t.Errorf("Unsigned of a form that is one byte longer: %d bytes, %d", len(b), e)
	}
	failed(t, modelOf(m).b, api.ErrLong)
	m.State = make([]byte, 1<<18)
	if b, e := message.Bytes(m); e != api.ErrLong || b != nil {
		t.Errorf("Bytes of a State of the most bytes: %d bytes, %d", len(b), e)
	}
	m.From = 13
	if _, e := message.Bytes(m); e != api.ErrMessage { // Check's error first
		t.Errorf("Bytes of what may not be: %d", e)
	}
	for _, first := range []byte{0, 3, 10, 255} { // ahead of whatever else is wrong
		b := make([]byte, 1<<18+1)
		b[0] = first
		failed(t, b, api.ErrLong)
		failedCert(t, b, api.ErrLong)
		failedChange(t, b, api.ErrLong)
		failedProof(t, b, api.ErrLong)
		b = b[:1<<18]
		if _, e := message.Parse(b); e != eaten("", b) || e == api.ErrLong {
			t.Errorf("Parse of the most bytes: %d", e)
		}
		if _, e := message.ParseCert(b); e != eaten("cert", b) || e == api.ErrLong {
			t.Errorf("ParseCert of the most bytes: %d", e)
		}
		if _, e := message.ParseChange(b); e != eaten("change", b) || e == api.ErrLong {
			t.Errorf("ParseChange of the most bytes: %d", e)
		}
		if _, e := message.ParseProof(b); e != eaten("proof", b) || e == api.ErrLong {
			t.Errorf("ParseProof of the most bytes: %d", e)
		}
	}
}

// parsedAll tells where one of the calls that parse says something else of a text than the tests' own words, or takes one that is not the bytes of what it says.
func parsedAll(t *testing.T, b []byte) bool {
	t.Helper()
	first := bytes.Clone(b)
	m, e := message.Parse(b)
	c, f := message.ParseCert(b)
	x, g := message.ParseChange(b)
	p, h := message.ParseProof(b)
	if !bytes.Equal(b, first) {
		t.Fatalf("what was handed in was written to: %v", first)
	}
	if e != eaten("", b) || e != 0 && !isZero(m) || e == 0 && (modelOf(m).e != 0 || !bytes.Equal(modelOf(m).b, b)) {
		t.Fatalf("Parse(%v) = %+v, %d, want %d", b, m, e, eaten("", b))
	}
	if f != eaten("cert", b) || f != 0 && !isZero(c) || f == 0 && (modelOf(c).e != 0 || !bytes.Equal(modelOf(c).b, b)) {
		t.Fatalf("ParseCert(%v) = %+v, %d, want %d", b, c, f, eaten("cert", b))
	}
	if g != eaten("change", b) || g != 0 && !isZero(x) || g == 0 && (modelOf(x).e != 0 || !bytes.Equal(modelOf(x).b, b)) {
		t.Fatalf("ParseChange(%v) = %+v, %d, want %d", b, x, g, eaten("change", b))
	}
	if h != eaten("proof", b) || h != 0 && !isZero(p) || h == 0 && (modelOf(p).e != 0 || !bytes.Equal(modelOf(p).b, b)) {
		t.Fatalf("ParseProof(%v) = %+v, %d, want %d", b, p, h, eaten("proof", b))
	}
	return e == 0 || f == 0 || g == 0 || h == 0
}

// P10.2, P10.4: all short texts of some bytes.
func TestParseShort(t *testing.T) {
	taken := 0
	var down func(b []byte, from []byte, n int)
	down = func(b []byte, from []byte, n int) {
		if parsedAll(t, b) {
			taken++
		}
		if len(b) == n {
			return
		}
		for _, c := range from {
			down(append(b, c), from, n)
		}
	}
	all := make([]byte, 256)
	for i := range all {
		all[i] = byte(i)
	}
	down(make([]byte, 0, 6), all, 2)
	down(make([]byte, 0, 6), []byte{0, 1, 3, 6, 9, 10, 128}, 5)
	if taken < 10 {
		t.Errorf("only %d were taken", taken)
	}
}

// P10.2, P10.4: forms with each of their bytes turned to others, left out, put in.
func TestParseTurned(t *testing.T) {
	dice := rand.New(rand.NewSource(4))
	taken, refused := 0, map[api.Errno]int{}
	for _, m := range slices.Concat(ordinary(), small()) {
		b := modelOf(m).b
		for i := range b {
			for _, c := range []byte{0, 1, 2, b[i] + 1, b[i] - 1, b[i] ^ 128, 255} {
				x := bytes.Clone(b)
				x[i] = c
				parsedAll(t, x)
				refused[eaten("", x)]++
			}
		}
	}
	for _, m := range light() {
		b := modelOf(m).b
		for range max(100000/len(b), 100) / 4 {
			if parsedAll(t, turned(dice, b)) {
				taken++
			}
		}
	}
	for _, e := range []api.Errno{api.ErrCut, api.ErrNum, api.ErrRest, api.ErrName, api.ErrRequest, api.ErrSign, api.ErrMessage} {
		if refused[e] < 2 {
			t.Errorf("only %d with the error %d", refused[e], e)
		}
	}
	if taken < 100 {
		t.Errorf("only %d were taken", taken)
	}
}

// THE BOUND: a form is not copied anew for each part; what is too long is not copied at all.
func TestFormsNearLinear(t *testing.T) {
	l := normal(great())
	for _, m := range l {
		b := modelOf(m).b
		if used := allocated(func() { message.Bytes(m) }); used > uint64(20*len(b)+1<<12) {
			t.Errorf("Bytes of Kind %d: %d bytes of memory for %d", m.Kind, used, len(b))
		}
		if used := allocated(func() { message.Unsigned(m) }); used > uint64(20*len(b)+1<<12) {
			t.Errorf("Unsigned of Kind %d: %d bytes of memory for %d", m.Kind, used, len(b))
		}
		if used := allocated(func() { message.Parse(b) }); used > uint64(20*len(b)+1<<12) {
			t.Errorf("Parse of Kind %d: %d bytes of memory for %d", m.Kind, used, len(b))
		}
	}
	long := make([]byte, 1<<24)
	used := allocated(func() {
		message.Parse(long)
		message.ParseCert(long)
		message.ParseChange(long)
		message.ParseProof(long)
		message.Parse(join([]byte{8, 0, 1}, number(1<<53)))
		message.Parse(join([]byte{8, 0, 1, 13}))
	})
	if used > 1<<16 {
		t.Errorf("%d bytes of memory for what is refused", used)
	}
}
