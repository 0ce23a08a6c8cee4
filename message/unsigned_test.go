package message_test

import (
	"bytes"
	"math"
	"slices"
	"testing"

	"bulla/api"
	"bulla/message"
)

// signOf is where a message's own signature stands; nil of a Kind without one.
func signOf(m *api.Msg) *api.Sign {
	switch m.Kind {
	case 2, 3, 4, 5, 6, 8, 9:
		return &m.Sign
	case 7:
		if len(m.Changes) == 1 {
			return &m.Changes[0].Sign
		}
	}
	return nil
}

// anySigns are signatures that may be, that may not be, and none.
func anySigns() []api.Sign {
	return []api.Sign{{}, {Key: 0, Digest: 1}, {Key: 20, Digest: 1 << 53}, {Key: 21, Digest: 1}, {Key: -1, Digest: 1}, {Key: 1, Digest: 0}, {Key: 1, Digest: -1}, {Key: 3, Digest: 1<<53 + 1}, {Key: math.MinInt, Digest: math.MaxInt64}}
}

// unsigned is what Unsigned has to answer, by the tests' own words.
func unsigned(m api.Msg) ([]byte, api.Errno) {
	m = normal(m)
	cut := 0
	if s := signOf(&m); s != nil {
		*s, cut = sign(0, 1), 2
	}
	want := modelOf(m)
	if want.e == 0 && len(want.b) > 1<<18 {
		want.e = 3
	}
	if want.e != 0 {
		return nil, want.e
	}
	return want.b[:len(want.b)-cut], 0
}

func toldUnsigned(t *testing.T, m api.Msg) {
	t.Helper()
	first := normal(m)
	want, e := unsigned(m)
	if b, f := message.Unsigned(m); f != e || e != 0 && b != nil || !bytes.Equal(b, want) {
		t.Fatalf("Unsigned(%+v) = %v, %d, want %v, %d", m, b, f, want, e)
	}
	if !same(m, first) {
		t.Fatalf("Unsigned wrote to %+v", first)
	}
}

// P10.3: what of a message is signed, told byte by byte.
func TestUnsignedForms(t *testing.T) {
	none := api.Sign{}
	one := api.Batch{{Request: api.Request{Client: 2, Time: 7}, Sign: sign(15, 300)}}
	x := api.Change{View: 2, From: 1, Above: []api.Prepared{{Seq: 6, Digest: 130, First: sign(1, 5)}}}
	for _, s := range []api.Sign{none, sign(1, 5), sign(20, 1<<53), sign(21, 0), sign(-1, -1)} {
		x.Sign = s
		body := []byte{2, 1, 0, 0, 0, 1, 0, 6, 130, 1, 1, 5, 0, 0}
		for _, c := range []struct {
			m api.Msg
			b []byte
		}{
			{api.Msg{Kind: api.MsPrePrepare, From: 1, View: 5, Seq: 3, Digest: 9, Batch: one, Sign: s}, []byte{2, 1, 5, 3, 9, 1, 3, 2, 7, 0, 15, 172, 2}},
			{api.Msg{Kind: api.MsPrepare, From: 1, Seq: 3, Digest: 9, Sign: s}, []byte{3, 1, 0, 3, 9}},
			{api.Msg{Kind: api.MsCommit, From: 1, Seq: 3, Digest: 9, Sign: s}, []byte{4, 1, 0, 3, 9}},
			{api.Msg{Kind: api.MsReply, From: 1, View: 2, Client: 3, Time: 4, Sign: s}, []byte{5, 1, 2, 3, 4, 0, 0}},
			{api.Msg{Kind: api.MsCheckpoint, From: 1, Seq: 4, Digest: 3, Sign: s}, []byte{6, 1, 4, 3}},
			{api.Msg{Kind: api.MsViewChange, From: 1, View: 2, Changes: []api.Change{x}}, join([]byte{7}, body)},
			{api.Msg{Kind: api.MsNewView, From: 1, View: 2, Changes: []api.Change{{View: 1, Sign: sign(7, 8)}}, Sign: s}, []byte{8, 1, 2, 1, 1, 0, 0, 0, 0, 0, 7, 8, 0}},
			{api.Msg{Kind: api.MsFetch, From: 1, Seq: 8, Sign: s}, []byte{9, 1, 8}},
		} {
			if b, e := message.Unsigned(c.m); e != api.OK || !bytes.Equal(b, c.b) {
				t.Errorf("Unsigned(%+v) = %v, %d, want %v", c.m, b, e, c.b)
			}
		}
		if b, e := message.ChangeBody(x); e != api.OK || !bytes.Equal(b, body) {
			t.Errorf("ChangeBody(%+v) = %v, %d, want %v", x, b, e, body)
		}
	}
	for _, c := range []struct {
		m api.Msg
		b []byte
	}{
		{api.Msg{Kind: api.MsRequest, Batch: one}, []byte{1, 1, 3, 2, 7, 0, 15, 172, 2}}, // a request's signature is not the message's
		{api.Msg{Kind: api.MsSnap, From: 3, State: []byte{8, 1}}, []byte{10, 3, 0, 0, 0, 2, 8, 1}},
		{api.Msg{Kind: api.MsAsk, Client: 3, Topic: "t", Offset: 4}, []byte{11, 3, 1, 116, 4}},
		{api.Msg{Kind: api.MsProof, Proof: api.Proof{Topic: "t", Count: 1}}, []byte{12, 0, 1, 116, 0, 0, 0, 0, 1, 0, 0, 0, 0}},
	} {
		if b, e := message.Unsigned(c.m); e != api.OK || !bytes.Equal(b, c.b) {
			t.Errorf("Unsigned(%+v) = %v, %d, want %v", c.m, b, e, c.b)
		}
		c.m.Sign = sign(1, 5)
		if b, e := message.Unsigned(c.m); e != api.ErrMessage || b != nil {
			t.Errorf("Unsigned(%+v) = %v, %d", c.m, b, e)
		}
	}
}

// P10.3: of each Kind, with any signature in its place, and with any one where there is no place.
func TestUnsignedSigns(t *testing.T) {
	for _, m := range samples() {
		want, _ := unsigned(m)
		for _, s := range anySigns() {
			x := normal(m)
			if p := signOf(&x); p != nil {
				*p = s
				toldUnsigned(t, x)
				if b, e := message.Unsigned(x); e != api.OK || !bytes.Equal(b, want) {
					t.Errorf("Unsigned of Kind %d with %+v: %d", m.Kind, s, e)
				}
			}
			if m.Kind == api.MsViewChange || signOf(&x) == nil {
				x.Sign = s
				toldUnsigned(t, x)
			}
		}
	}
}

// P10.3: what is wrong otherwise is told, whatever the signature.
func TestUnsignedWrong(t *testing.T) {
	for i, x := range []struct {
		kind int
		do   func(m *api.Msg)
		e    api.Errno
	}{
		{3, func(m *api.Msg) { m.Kind = 0 }, api.ErrMessage},
		{3, func(m *api.Msg) { m.Kind = 13 }, api.ErrMessage},
		{3, func(m *api.Msg) { m.Seq, m.Sign = 0, api.Sign{} }, api.ErrMessage},
		{3, func(m *api.Msg) { m.Time = 1 }, api.ErrMessage},
		{1, func(m *api.Msg) { m.Batch = nil }, api.ErrMessage},
		{1, func(m *api.Msg) { m.Batch[0].Sign = api.Sign{} }, api.ErrSign},
		{2, func(m *api.Msg) { m.Batch[1].Sign = api.Sign{} }, api.ErrSign},
		{7, func(m *api.Msg) { m.Changes = nil }, api.ErrMessage},
		{7, func(m *api.Msg) { m.Changes = append(m.Changes, m.Changes[0]) }, api.ErrMessage},
		{7, func(m *api.Msg) { m.Changes[0].Cert.Signs[1].Digest = 0 }, api.ErrSign},
		{7, func(m *api.Msg) { m.Changes[0].Above[1].First.Digest = 0 }, api.ErrSign},
		{7, func(m *api.Msg) { m.From = 2 }, api.ErrMessage},
		{8, func(m *api.Msg) { m.Changes[1].Sign = api.Sign{} }, api.ErrSign}, // that of another one's change counts
		{8, func(m *api.Msg) { m.Changes = m.Changes[:1]; m.Changes[0].Sign = api.Sign{} }, api.ErrSign},
		{8, func(m *api.Msg) { m.Entries[1].Sign = api.Sign{} }, api.ErrSign},
		{11, func(m *api.Msg) { m.Topic = "" }, api.ErrName},
	} {
		m := msg(x.kind, x.do)
		if b, e := message.Unsigned(m); e != x.e || b != nil {
			t.Errorf("%d: Unsigned(%+v) = %v, %d, want %d", i, m, b, e, x.e)
		}
	}
	if b, e := message.Unsigned(api.Msg{}); e != api.ErrMessage || b != nil {
		t.Errorf("Unsigned of nothing: %v, %d", b, e)
	}
}

// P10.3: each number, name and list set alone to each of many edges.
func TestUnsignedEachAlone(t *testing.T) {
	for _, m := range normal(slices.Concat(ordinary(), small())) {
		for i := range knobs(&m) {
			for j := range turns(knobs(&m)[i]) {
				x := normal(m)
				turns(knobs(&x)[i])[j]()
				toldUnsigned(t, x)
			}
		}
	}
}

// P10.3: ChangeBody, with any signature, and with what is wrong otherwise.
func TestChangeBody(t *testing.T) {
	for _, c := range someChanges() {
		for _, s := range anySigns() {
			x := normal(c)
			x.Sign = sign(0, 1)
			want := modelOf(x).b
			x.Sign = s
			if b, e := message.ChangeBody(x); e != api.OK || !bytes.Equal(b, want[:len(want)-2]) || x.Sign != s {
				t.Errorf("ChangeBody(%+v) = %v, %d", x, b, e)
			}
		}
	}
	for i, c := range []api.Change{{}, {View: 1, From: 13}, {View: 1, Cert: api.Cert{Digest: 1}}, {View: 1, Cert: api.Cert{Seq: 1, Digest: 1, Signs: make([]api.Sign, 1)}}, {View: 1, Above: make([]api.Prepared, 1)}, change(9)} {
		for _, s := range anySigns() {
			c.Sign = sign(0, 1)
			want := modelOf(c).e
			c.Sign = s
			if b, e := message.ChangeBody(c); e != want || e == api.OK || b != nil {
				t.Errorf("%d: ChangeBody(%+v) = %v, %d, want %d", i, c, b, e, want)
			}
		}
	}
}

// P10.5: messages whose Unsigneds are the same are the same but for their signs.
func TestSignedWhole(t *testing.T) {
	type other struct {
		m api.Msg
		n int
	}
	known := map[string]*other{}
	same, unlike := 0, 0
	add := func(m api.Msg) {
		b, e := message.Unsigned(m)
		if e != api.OK {
			return
		}
		for _, s := range []api.Sign{{}, {Key: 5, Digest: 6}} { // whatever its signature
			if p := signOf(&m); p != nil {
				*p = s
			}
			c, _ := message.Unsigned(m)
			if !bytes.Equal(b, c) {
				t.Fatalf("another signature gives another Unsigned: %+v", m)
			}
		}
		x := known[string(b)]
		if x == nil {
			known[string(b)] = &other{m, 1}
			unlike++
			return
		}
		same++
		x.n++
		if !message.Same(x.m, m) {
			t.Fatalf("unlike messages with one Unsigned: %+v, %+v", x.m, m)
		}
	}
	for _, m := range normal(slices.Concat(ordinary(), small())) {
		for i := range knobs(&m) {
			for j := range turns(knobs(&m)[i]) {
				x := normal(m)
				turns(knobs(&x)[i])[j]()
				add(x)
			}
		}
	}
	if same < 1000 || unlike < 1000 {
		t.Errorf("%d with an Unsigned that was there already, %d with one of their own", same, unlike)
	}
}
