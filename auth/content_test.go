package auth_test

import (
	"bytes"
	"math"
	"slices"
	"testing"

	"bulla/api"
	"bulla/auth"
	"bulla/message"
)

// told tells where Content does not answer what it has to, or writes to the message.
func told(t *testing.T, m api.Msg) ([]byte, api.Errno) {
	t.Helper()
	first := normal(m)
	want, f := content(m)
	b, e := auth.Content(m)
	if !bytes.Equal(b, want) || (b == nil) != (want == nil) || e != f {
		t.Fatalf("Content(%+v) = %v, %d, want %v, %d", m, b, e, want, f)
	}
	if !same(m, first) {
		t.Fatalf("Content wrote to %+v", first)
	}
	return b, e
}

// P11.2: what is signed of each Kind, told byte by byte, whatever its own signature.
func TestContentForms(t *testing.T) {
	one := api.Batch{{Request: api.Request{Client: 2, Time: 7}, Sign: sign(15, 300)}}
	for _, s := range anySigns() {
		c := api.Change{View: 2, From: 1, Above: []api.Prepared{{Seq: 6, Digest: 130, First: sign(1, 5)}}, Sign: s}
		other := api.Change{View: 1, Sign: sign(7, 8)}
		for _, x := range []struct {
			m api.Msg
			b []byte
		}{
			{api.Msg{Kind: api.MsPrePrepare, From: 1, View: 5, Seq: 3, Digest: 9, Batch: one, Sign: s}, []byte{4, 2, 5, 3, 9}},
			{api.Msg{Kind: api.MsPrePrepare, From: 1, View: 5, Seq: 3, Digest: 9, Sign: s}, []byte{4, 2, 5, 3, 9}},
			{api.Msg{Kind: api.MsPrepare, From: 1, View: 300, Seq: 3, Digest: 9, Sign: s}, []byte{4, 3, 172, 2, 3, 9}},
			{api.Msg{Kind: api.MsPrepare, From: 12, View: 300, Seq: 3, Digest: 9, Sign: s}, []byte{4, 3, 172, 2, 3, 9}},
			{api.Msg{Kind: api.MsCommit, From: 1, Seq: 300, Digest: 128, Sign: s}, []byte{4, 4, 0, 172, 2, 128, 1}},
			{api.Msg{Kind: api.MsReply, From: 1, View: 2, Client: 3, Time: 4, Sign: s}, []byte{5, 2, 3, 4, 0, 0}},
			{api.Msg{Kind: api.MsReply, From: 1, View: 2, Client: 3, Time: 128, Result: api.Result{Err: 300, Offset: 5}, Sign: s}, []byte{5, 2, 3, 128, 1, 172, 2, 5}},
			{api.Msg{Kind: api.MsCheckpoint, From: 1, Seq: 4, Digest: 3, Sign: s}, []byte{4, 6, 0, 4, 3}},
			{api.Msg{Kind: api.MsViewChange, From: 1, View: 2, Changes: []api.Change{c}}, []byte{6, 7, 2, 1, 0, 0, 0, 1, 0, 6, 130, 1, 1, 5, 0, 0}},
			{api.Msg{Kind: api.MsNewView, From: 1, View: 2, Changes: []api.Change{other}, Sign: s}, []byte{6, 8, 1, 2, 1, 1, 0, 0, 0, 0, 0, 7, 8, 0}},
			{api.Msg{Kind: api.MsFetch, From: 1, Seq: 8, Sign: s}, []byte{4, 9, 0, 8, 0}},
			{api.Msg{Kind: api.MsFetch, Sign: s}, []byte{4, 9, 0, 0, 0}},
		} {
			if b, e := auth.Content(x.m); e != api.OK || !bytes.Equal(b, x.b) {
				t.Errorf("Content(%+v) = %v, %d, want %v", x.m, b, e, x.b)
			}
			told(t, x.m)
		}
	}
	for _, m := range []api.Msg{
		{Kind: api.MsRequest, Batch: one},
		{Kind: api.MsSnap, From: 3, State: []byte{8, 1}},
		{Kind: api.MsAsk, Client: 3, Topic: "t", Offset: 4},
		{Kind: api.MsProof, Proof: api.Proof{Topic: "t", Count: 1}},
	} {
		if b, e := auth.Content(m); e != api.OK || b != nil {
			t.Errorf("Content(%+v), which nobody signs: %v, %d", m, b, e)
		}
		for _, s := range anySigns()[1:] { // of its Kind there is no signature
			m.Sign = s
			if b, e := auth.Content(m); e != api.ErrMessage || b != nil {
				t.Errorf("Content(%+v): %v, %d", m, b, e)
			}
		}
	}
}

// P11.2: of each Kind, whatever the signature.
func TestContentOfOwnSign(t *testing.T) {
	for _, m := range someoneSigns(samples()) {
		want, _ := content(m)
		for _, s := range anySigns() {
			if b, e := told(t, withSign(m, s)); e != api.OK || !bytes.Equal(b, want) {
				t.Errorf("Content of Kind %d with %v: %d", m.Kind, s, e)
			}
		}
	}
}

// P11.2: Kinds that there are, and others, with what any Kind may have.
func TestContentKinds(t *testing.T) {
	for _, kind := range []int{0, 13, -1, 14, 256, 257, math.MinInt, math.MaxInt} {
		for _, m := range samples() {
			m.Kind = kind
			if b, e := auth.Content(m); e != api.ErrMessage || b != nil {
				t.Errorf("Content of Kind %d: %v, %d", kind, b, e)
			}
		}
		if b, e := auth.Content(api.Msg{Kind: kind}); e != api.ErrMessage || b != nil {
			t.Errorf("Content of Kind %d alone: %v, %d", kind, b, e)
		}
	}
	for _, m := range samples() {
		for kind := range 14 {
			if kind != m.Kind {
				o := normal(m)
				o.Kind = kind
				told(t, o)
			}
		}
	}
}

// P11.2: message.Unsigned's errors.
func TestContentErrors(t *testing.T) {
	l := ordinary()
	for i, c := range []struct {
		kind int
		do   func(m *api.Msg)
		e    api.Errno
	}{
		{1, func(m *api.Msg) { m.Batch = nil }, api.ErrMessage},
		{1, func(m *api.Msg) { m.Batch[0].Sign = api.Sign{} }, api.ErrSign}, // a request's signature is not the message's own
		{2, func(m *api.Msg) { m.Seq = 0 }, api.ErrMessage},
		{2, func(m *api.Msg) { m.Batch[0].Request.Time = 0 }, api.ErrRequest},
		{2, func(m *api.Msg) { m.Batch = batch(5) }, api.ErrLong},
		{3, func(m *api.Msg) { m.From = 13 }, api.ErrMessage},
		{3, func(m *api.Msg) { m.View = -1 }, api.ErrMessage}, // where VoteBytes would put 0
		{3, func(m *api.Msg) { m.Time = 1 }, api.ErrMessage},
		{4, func(m *api.Msg) { m.Digest = 0 }, api.ErrMessage},
		{5, func(m *api.Msg) { m.Client = 8 }, api.ErrMessage},
		{5, func(m *api.Msg) { m.Result.Err = -1 }, api.ErrMessage},
		{6, func(m *api.Msg) { m.View = 1 }, api.ErrMessage},
		{7, func(m *api.Msg) { m.Changes = nil }, api.ErrMessage},
		{7, func(m *api.Msg) { m.Changes = append(m.Changes, m.Changes[0]) }, api.ErrMessage},
		{7, func(m *api.Msg) { m.From = 3 }, api.ErrMessage},
		{7, func(m *api.Msg) { m.View = 3 }, api.ErrMessage},
		{7, func(m *api.Msg) { m.Sign = sign(1, 70) }, api.ErrMessage},
		{7, func(m *api.Msg) { m.Changes[0].Cert.Signs[1].Digest = 0 }, api.ErrSign},
		{8, func(m *api.Msg) { m.Changes[0].Sign = api.Sign{} }, api.ErrSign},
		{8, func(m *api.Msg) { m.Entries[1].Sign = api.Sign{} }, api.ErrSign},
		{9, func(m *api.Msg) { m.Digest = 1 }, api.ErrMessage},
		{10, func(m *api.Msg) { m.State = make([]byte, 1<<18) }, api.ErrLong},
		{10, func(m *api.Msg) { m.State = make([]byte, 1<<18+1) }, api.ErrMessage},
		{11, func(m *api.Msg) { m.Topic = "" }, api.ErrName},
		{12, func(m *api.Msg) { m.Proof.Count = 1 }, api.ErrMessage},
	} {
		m := normal(l[c.kind-1])
		c.do(&m)
		if b, e := told(t, m); e != c.e || b != nil {
			t.Errorf("%d: Content of Kind %d: %v, %d, want %d", i, c.kind, b, e, c.e)
		}
	}
}

// P11.2: each number, text and list of each Kind turned alone.
func TestContentTurned(t *testing.T) {
	for _, m := range append(ordinary(), small()...) {
		for _, o := range turned(m) {
			told(t, o)
		}
	}
}

// saying is what a message that somebody signs says by its signature, by the tests' own words; all else in it is gone.
func saying(m api.Msg) api.Msg {
	switch m.Kind {
	case 2, 3, 4:
		return api.Msg{Kind: m.Kind, View: m.View, Seq: m.Seq, Digest: m.Digest}
	case 5:
		return api.Msg{Kind: 5, View: m.View, Client: m.Client, Time: m.Time, Result: m.Result}
	case 6:
		return api.Msg{Kind: 6, Seq: m.Seq, Digest: m.Digest}
	case 9:
		return api.Msg{Kind: 9, Seq: m.Seq}
	}
	return withSign(m, api.Sign{})
}

// P11.6: messages of which the same is signed say the same, and the other way round; of unlike Kinds there are none.
func TestContentMeaning(t *testing.T) {
	known := map[string]api.Msg{}
	again, unlike, kinds := 0, 0, map[int]int{}
	add := func(m api.Msg) {
		b, e := auth.Content(m)
		if e != api.OK || b == nil {
			return
		}
		kinds[m.Kind]++
		s := saying(m)
		o, is := known[string(b)]
		if is && !same(o, s) {
			t.Fatalf("one Content of %+v and %+v", o, s)
		}
		if c, _ := auth.Content(fill(s)); !bytes.Equal(b, c) {
			t.Fatalf("another Content of what says the same: %+v", s)
		}
		if is {
			again++
		} else {
			unlike++
		}
		known[string(b)] = s
	}
	for _, m := range someoneSigns(append(ordinary(), small()...)) {
		for _, o := range turned(m) {
			add(o)
		}
	}
	for _, n := range []int64{1, 2, 3, 4, 5, 6, 7, 8, 9} { // the same numbers in all of them
		for _, k := range []int64{1, 2, 3, 5, 8, 9} {
			for kind := range 10 {
				m := api.Msg{Kind: kind, From: 1, View: n, Seq: k, Digest: api.Digest(n)}
				add(m)
				m.View = 0
				add(m)
				m.Digest = 0
				add(m)
			}
			add(api.Msg{Kind: 5, View: n, Client: int(k % 8), Time: n, Result: api.Result{Err: api.Errno(k), Offset: n}})
			add(api.Msg{Kind: 5, View: 3, Client: 2, Time: n, Result: api.Result{Err: 3, Offset: k}})
			add(auth.Change(api.Change{View: n, From: int(k)}))
			add(api.Msg{Kind: 8, View: n, From: int(k)})
		}
	}
	if again < 300 || unlike < 300 || len(kinds) != 8 {
		t.Errorf("%d that were there already, %d of their own, Kinds %v", again, unlike, kinds)
	}
}

// fill is a message that says the same as m, with something else wherever nothing of it is signed.
func fill(m api.Msg) api.Msg {
	if m.Kind == 2 {
		m.Batch = batch(3)
	}
	if m.Kind != 7 && m.Kind != 8 {
		m.From = 11
	}
	return withSign(m, sign(9, 99))
}

// P11.6: no content begins another one's, or an other thing's that is signed: a request's, a header's.
func TestContentMarks(t *testing.T) {
	var l [][]byte
	for _, m := range someoneSigns(samples()) {
		b, _ := auth.Content(m)
		want := map[int]byte{2: 4, 3: 4, 4: 4, 5: 5, 6: 4, 7: 6, 8: 6, 9: 4}[m.Kind]
		if b[0] != want {
			t.Errorf("Content of Kind %d begins with %d", m.Kind, b[0])
		}
		l = append(l, b)
	}
	slices.SortFunc(l, bytes.Compare)
	for i := range l {
		if i > 0 && bytes.HasPrefix(l[i], l[i-1]) {
			t.Errorf("%v begins %v", l[i-1], l[i])
		}
	}
}

// P11.2: Change, of changes that may be and others: nothing is asked.
func TestChange(t *testing.T) {
	for _, c := range []api.Change{
		change(1, 2), change(3, 0), change(12, 8), {View: 1, From: 3}, {View: most, From: 12}, great()[5].Changes[0], // such as may be
		{}, {View: -1, From: -1}, {View: math.MaxInt64, From: math.MinInt, Sign: sign(-1, -1)}, change(13, 9), {Cert: api.Cert{Digest: 3}},
	} {
		first := normal(c)
		m := auth.Change(c)
		want := api.Msg{Kind: 7, From: c.From, View: c.View, Changes: []api.Change{c}}
		if !same(m, want) || !same(c, first) {
			t.Errorf("Change(%+v) = %+v", c, m)
		}
		if message.CheckChange(c) != message.Check(m) {
			t.Errorf("Change(%+v): %d, %d", c, message.CheckChange(c), message.Check(m))
		}
	}
}

// R3: what Content and Change answer is nobody else's.
func TestContentKeepsOff(t *testing.T) {
	for _, m := range samples() {
		x, written := roomy(m)
		b, _ := auth.Content(x)
		first := slices.Clone(b)
		c, _ := auth.Content(x)
		scribble(&b)
		if !bytes.Equal(c, first) || !same(x, m) || written() {
			t.Errorf("Content of Kind %d is somebody else's", m.Kind)
		}
		scribble(&x)
		if !bytes.Equal(c, first) {
			t.Errorf("Content of Kind %d sees what is written", m.Kind)
		}
		told(t, m)
	}
	for _, c := range []api.Change{change(1, 2), change(3, 0), great()[5].Changes[0], {}} {
		x, written := roomy(c)
		m, again := auth.Change(x), auth.Change(x)
		want := normal(m)
		scribble(&m)
		if !same(x, c) || written() || !same(again, want) {
			t.Errorf("Change shares memory: %+v", x)
		}
		scribble(&x)
		if !same(again, want) {
			t.Errorf("Change sees what is written: %+v", again)
		}
	}
}
