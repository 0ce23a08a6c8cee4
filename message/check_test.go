package message_test

import (
	"math"
	"math/rand"
	"slices"
	"strings"
	"testing"

	"bulla/api"
	"bulla/message"
)

// msg is the ordinary message of a Kind, with changes.
func msg(kind int, changes ...func(m *api.Msg)) api.Msg {
	m := normal(ordinary()[kind-1])
	for _, do := range changes {
		do(&m)
	}
	return m
}

// P10.1: ordinary messages, the smallest ones, the greatest ones.
func TestCheckGood(t *testing.T) {
	for _, m := range samples() {
		if e := message.Check(m); e != api.OK {
			t.Errorf("Check of Kind %d: %d", m.Kind, e)
		}
	}
	for _, c := range certs() {
		if e := message.CheckCert(c); e != api.OK {
			t.Errorf("CheckCert(%+v) = %d", c, e)
		}
	}
	for _, c := range someChanges() {
		if e := message.CheckChange(c); e != api.OK {
			t.Errorf("CheckChange: %d", e)
		}
	}
	for _, p := range proofs() {
		if e := message.CheckProof(p); e != api.OK {
			t.Errorf("CheckProof(%+v) = %d", p, e)
		}
	}
}

// P10.1: Kinds.
func TestCheckKind(t *testing.T) {
	for _, kind := range []int{math.MinInt, -1, 0, 13, 14, 256 + 3, 1<<32 + 3, math.MaxInt} {
		if e := message.Check(api.Msg{Kind: kind}); e != api.ErrMessage {
			t.Errorf("Check of Kind %d: %d", kind, e)
		}
		if e := message.Check(msg(3, func(m *api.Msg) { m.Kind, m.Sign = kind, api.Sign{} })); e != api.ErrMessage {
			t.Errorf("Check of Kind %d: %d", kind, e)
		}
	}
	if e := message.Check(api.Msg{}); e != api.ErrMessage {
		t.Errorf("Check of nothing: %d", e)
	}
}

// P10.1: certificates, of Seq 0 and of others.
func TestCheckCert(t *testing.T) {
	bad := []api.Sign{{Key: 1}}
	for i, x := range []struct {
		c api.Cert
		e api.Errno
	}{
		{api.Cert{}, api.OK},
		{api.Cert{Signs: []api.Sign{}}, api.OK},
		{api.Cert{Digest: 1}, api.ErrMessage},
		{api.Cert{Digest: -1}, api.ErrMessage},
		{api.Cert{Signs: signs(1)}, api.ErrMessage},
		{api.Cert{Signs: bad}, api.ErrMessage},
		{api.Cert{Digest: 9, Signs: signs(3)}, api.ErrMessage},
		{api.Cert{Seq: 1, Digest: 1}, api.OK},
		{api.Cert{Seq: 1, Digest: 1, Signs: []api.Sign{}}, api.OK},
		{api.Cert{Seq: 1}, api.ErrMessage},
		{api.Cert{Seq: 1, Signs: signs(3)}, api.ErrMessage},
		{api.Cert{Seq: 1, Digest: -1}, api.ErrMessage},
		{api.Cert{Seq: 1, Digest: 1 << 53, Signs: signs(13)}, api.OK},
		{api.Cert{Seq: 1, Digest: 1<<53 + 1}, api.ErrMessage},
		{api.Cert{Seq: 1 << 53, Digest: 1}, api.OK},
		{api.Cert{Seq: 1<<53 + 1, Digest: 1}, api.ErrMessage},
		{api.Cert{Seq: -1, Digest: 1}, api.ErrMessage},
		{api.Cert{Seq: -1}, api.ErrMessage},
		{api.Cert{Seq: 1, Digest: 1, Signs: signs(14)}, api.ErrMessage},
		{api.Cert{Seq: 1, Digest: 1, Signs: bad}, api.ErrSign},
		{api.Cert{Seq: 1, Digest: 1, Signs: append(signs(12), bad...)}, api.ErrSign},
		{api.Cert{Seq: 1, Digest: 1, Signs: slices.Repeat(signs(1), 13)}, api.OK}, // whose they are, is not asked

		{api.Cert{Seq: 1, Signs: bad}, api.ErrMessage}, // the first one
		{api.Cert{Seq: -1, Digest: 1, Signs: bad}, api.ErrMessage},
		{api.Cert{Seq: 1, Digest: 1, Signs: slices.Repeat(bad, 14)}, api.ErrMessage},
	} {
		if e := message.CheckCert(x.c); e != x.e {
			t.Errorf("%d: CheckCert(%+v) = %d, want %d", i, x.c, e, x.e)
		}
		for _, m := range []api.Msg{msg(10, func(m *api.Msg) { m.Cert = x.c }), msg(12, func(m *api.Msg) { m.Proof.Cert = x.c }), msg(7, func(m *api.Msg) { m.Changes[0].Cert = x.c })} {
			if e := message.Check(m); e != x.e {
				t.Errorf("%d: Check of Kind %d: %d, want %d", i, m.Kind, e, x.e)
			}
		}
	}
}

// P10.1: view-changes, and what was prepared.
func TestCheckChange(t *testing.T) {
	set := func(do func(c *api.Change)) api.Change {
		c := normal(change(2))
		do(&c)
		return c
	}
	for i, x := range []struct {
		c api.Change
		e api.Errno
	}{
		{change(0), api.OK},
		{change(8), api.OK},
		{change(9), api.ErrMessage},
		{set(func(c *api.Change) { c.View = 0 }), api.ErrMessage},
		{set(func(c *api.Change) { c.View = 1 }), api.OK},
		{set(func(c *api.Change) { c.View = 1 << 53 }), api.OK},
		{set(func(c *api.Change) { c.View = 1<<53 + 1 }), api.ErrMessage},
		{set(func(c *api.Change) { c.From = -1 }), api.ErrMessage},
		{set(func(c *api.Change) { c.From = 12 }), api.OK},
		{set(func(c *api.Change) { c.From = 13 }), api.ErrMessage},
		{set(func(c *api.Change) { c.Sign.Digest = 0 }), api.ErrSign},
		{set(func(c *api.Change) { c.Sign.Key = 21 }), api.ErrSign},
		{set(func(c *api.Change) { c.Sign.Key = 20 }), api.OK},
		{set(func(c *api.Change) { c.Above = []api.Prepared{} }), api.OK},
		{set(func(c *api.Change) { c.Above[1].View = -1 }), api.ErrMessage},
		{set(func(c *api.Change) { c.Above[1].View = 0 }), api.OK},
		{set(func(c *api.Change) { c.Above[1].Seq = 0 }), api.ErrMessage},
		{set(func(c *api.Change) { c.Above[1].Seq = 1 }), api.OK},
		{set(func(c *api.Change) { c.Above[1].Seq = 5 }), api.OK}, // the same as another one's: nobody asks here
		{set(func(c *api.Change) { c.Above[1].Digest = 0 }), api.ErrMessage},
		{set(func(c *api.Change) { c.Above[1].Digest = 1<<53 + 1 }), api.ErrMessage},
		{set(func(c *api.Change) { c.Above[1].First = api.Sign{} }), api.ErrSign},
		{set(func(c *api.Change) { c.Above[1].Signs = nil }), api.OK},
		{set(func(c *api.Change) { c.Above[1].Signs = signs(13) }), api.OK},
		{set(func(c *api.Change) { c.Above[1].Signs = signs(14) }), api.ErrMessage},
		{set(func(c *api.Change) { c.Above[1].Signs[1].Key = -1 }), api.ErrSign},
		{set(func(c *api.Change) { c.Above[1].Batch = nil }), api.OK},
		{set(func(c *api.Change) { c.Above[1].Batch = batch(4) }), api.OK},
		{set(func(c *api.Change) { c.Above[1].Batch = append(batch(4), batch(1)...) }), api.ErrLong},
		{set(func(c *api.Change) { c.Above[1].Batch = append(batch(2), batch(1)...) }), api.ErrTwice},
		{set(func(c *api.Change) { c.Above[1].Batch[0].Request.Time = 0 }), api.ErrRequest},
		{set(func(c *api.Change) { c.Above[1].Batch[0].Request.Op.Kind = 5 }), api.ErrOp},
		{set(func(c *api.Change) { c.Above[1].Batch[0].Request.Op.Topic = "" }), api.ErrName},
		{set(func(c *api.Change) { c.Above[1].Batch[0].Request.Op.Records = nil }), api.ErrRecord},

		{set(func(c *api.Change) { c.View, c.Sign.Digest = 0, 0 }), api.ErrMessage}, // the first one
		{set(func(c *api.Change) { c.Cert.Signs[0].Key, c.Above[0].Seq = -1, 0 }), api.ErrSign},
		{set(func(c *api.Change) { c.From, c.Cert.Signs[0].Key = 13, -1 }), api.ErrMessage},
		{set(func(c *api.Change) { c.Above[0].First.Digest, c.Above[0].Signs = 0, signs(14) }), api.ErrSign},
		{set(func(c *api.Change) { c.Above[0].Seq, c.Above[0].First.Digest = 0, 0 }), api.ErrMessage},
		{set(func(c *api.Change) { c.Above[0].Batch[0].Request.Time, c.Above[1].Seq = 0, 0 }), api.ErrRequest},
		{set(func(c *api.Change) { c.Above[0].Signs[0].Key, c.Above[0].Batch = 21, batch(5) }), api.ErrSign},
		{set(func(c *api.Change) { c.Above[1].Batch, c.Sign.Key = append(batch(4), batch(1)...), 21 }), api.ErrLong},
		{set(func(c *api.Change) { c.Above[1].View, c.Sign.Key = -1, 21 }), api.ErrMessage},
		{set(func(c *api.Change) { c.Above = prepareds(9); c.Above[0].First.Digest = 0 }), api.ErrMessage},
	} {
		if e := message.CheckChange(x.c); e != x.e {
			t.Errorf("%d: CheckChange(%+v) = %d, want %d", i, x.c, e, x.e)
		}
		if e := message.Check(api.Msg{Kind: api.MsViewChange, From: x.c.From, View: x.c.View, Changes: []api.Change{x.c}}); e != x.e {
			t.Errorf("%d: Check of a MsViewChange: %d, want %d", i, e, x.e)
		}
		if e := message.Check(msg(8, func(m *api.Msg) { m.Changes[1] = x.c })); e != x.e {
			t.Errorf("%d: Check of a MsNewView: %d, want %d", i, e, x.e)
		}
	}
}

// P10.1: proofs.
func TestCheckProof(t *testing.T) {
	for i, x := range []struct {
		do func(p *api.Proof)
		e  api.Errno
	}{
		{func(p *api.Proof) { p.Topic = "" }, api.ErrName},
		{func(p *api.Proof) { p.Topic = strings.Repeat("\U0010ffff", 16) }, api.OK},
		{func(p *api.Proof) { p.Topic = strings.Repeat("é", 17) }, api.ErrName},
		{func(p *api.Proof) { p.Topic = strings.Repeat("x", 65) }, api.ErrName},
		{func(p *api.Proof) { p.Topic = "a/b" }, api.ErrName},
		{func(p *api.Proof) { p.Offset = -1 }, api.ErrMessage},
		{func(p *api.Proof) { p.Offset = 0 }, api.OK},
		{func(p *api.Proof) { p.Offset = 1 << 53 }, api.OK},
		{func(p *api.Proof) { p.Offset = 1<<53 + 1 }, api.ErrMessage},
		{func(p *api.Proof) { p.Record = nil }, api.OK},
		{func(p *api.Proof) { p.Record = make(api.Record, 64) }, api.OK},
		{func(p *api.Proof) { p.Record = make(api.Record, 65) }, api.ErrMessage},
		{func(p *api.Proof) { p.Headers = nil }, api.OK},
		{func(p *api.Proof) { p.Headers = headers(64) }, api.OK},
		{func(p *api.Proof) { p.Headers = headers(65) }, api.ErrMessage},
		{func(p *api.Proof) { p.Headers[2].Seq = 0 }, api.ErrMessage},
		{func(p *api.Proof) { p.Headers[2] = api.Header{Seq: 1} }, api.OK},
		{func(p *api.Proof) { p.Headers[2].Prev = -1 }, api.ErrMessage},
		{func(p *api.Proof) { p.Headers[2].Batch = 1<<53 + 1 }, api.ErrMessage},
		{func(p *api.Proof) { p.Headers[2].Root = -1 }, api.ErrMessage},
		{func(p *api.Proof) { p.Headers[2].State = 1<<53 + 1 }, api.ErrMessage},
		{func(p *api.Proof) { p.Index, p.Count = 0, 0 }, api.ErrMessage},
		{func(p *api.Proof) { p.Index, p.Count = 0, 1 }, api.OK},
		{func(p *api.Proof) { p.Index, p.Count = 1, 1 }, api.ErrMessage},
		{func(p *api.Proof) { p.Index, p.Count = -1, 1 }, api.ErrMessage},
		{func(p *api.Proof) { p.Index, p.Count = 15, 16 }, api.OK},
		{func(p *api.Proof) { p.Index, p.Count = 16, 16 }, api.ErrMessage},
		{func(p *api.Proof) { p.Index, p.Count = 0, 17 }, api.ErrMessage},
		{func(p *api.Proof) { p.Index, p.Count = 16, 17 }, api.ErrMessage},
		{func(p *api.Proof) { p.Index, p.Count = -2, -1 }, api.ErrMessage},
		{func(p *api.Proof) { p.Index, p.Count = 0, math.MinInt }, api.ErrMessage},
		{func(p *api.Proof) { p.Index, p.Count = math.MaxInt, math.MaxInt }, api.ErrMessage},
		{func(p *api.Proof) { p.Index, p.Count = math.MinInt, 1 }, api.ErrMessage},
		{func(p *api.Proof) { p.Path = nil }, api.OK},
		{func(p *api.Proof) { p.Path = make([]api.Digest, 8) }, api.OK},
		{func(p *api.Proof) { p.Path = make([]api.Digest, 9) }, api.ErrMessage},
		{func(p *api.Proof) { p.Path[1] = -1 }, api.ErrMessage},
		{func(p *api.Proof) { p.Path[1] = 1<<53 + 1 }, api.ErrMessage},
		{func(p *api.Proof) { p.Path[1] = 1 << 53 }, api.OK},
		{func(p *api.Proof) { p.Cert.Signs[0].Key = 21 }, api.ErrSign},

		{func(p *api.Proof) { p.Topic, p.Offset = "", -1 }, api.ErrName}, // the first one
		{func(p *api.Proof) { p.Topic, p.Cert.Signs[0].Key = "", 21 }, api.ErrName},
		{func(p *api.Proof) { p.Record, p.Cert.Signs[0].Key = make(api.Record, 65), 21 }, api.ErrMessage},
		{func(p *api.Proof) { p.Path[0], p.Cert.Signs[0].Key = -1, 21 }, api.ErrMessage},
		{func(p *api.Proof) { p.Count, p.Cert.Signs[0].Key = 1, 21 }, api.ErrMessage},
	} {
		p := normal(proof())
		x.do(&p)
		if e := message.CheckProof(p); e != x.e {
			t.Errorf("%d: CheckProof(%+v) = %d, want %d", i, p, e, x.e)
		}
		if e := message.Check(msg(12, func(m *api.Msg) { m.Proof = p })); e != x.e {
			t.Errorf("%d: Check(%+v) = %d, want %d", i, p, e, x.e)
		}
	}
}

// P10.1: messages of each Kind with this and that wrong, and which error comes first.
func TestCheck(t *testing.T) {
	for i, x := range []struct {
		kind int
		do   func(m *api.Msg)
		e    api.Errno
	}{
		{1, func(m *api.Msg) { m.Batch = nil }, api.ErrMessage}, // of just one
		{1, func(m *api.Msg) { m.Batch = api.Batch{} }, api.ErrMessage},
		{1, func(m *api.Msg) { m.Batch = batch(2) }, api.ErrMessage},
		{1, func(m *api.Msg) { m.Batch = append(batch(1), batch(1)...) }, api.ErrMessage}, // ahead of ErrTwice
		{1, func(m *api.Msg) { m.Batch = slices.Repeat(batch(1), 5) }, api.ErrMessage},    // and of ErrLong
		{1, func(m *api.Msg) { m.Batch = make(api.Batch, 2) }, api.ErrMessage},
		{1, func(m *api.Msg) { m.Batch[0].Request.Client = 8 }, api.ErrRequest},
		{1, func(m *api.Msg) { m.Batch[0].Sign.Digest = 0 }, api.ErrSign},
		{1, func(m *api.Msg) { m.Batch[0].Request.Op.Topic = "a b" }, api.ErrName},
		{1, func(m *api.Msg) { m.Batch[0].Sign.Digest, m.From = 0, 1 }, api.ErrSign},
		{1, func(m *api.Msg) { m.Sign = sign(1, 1) }, api.ErrMessage},

		{2, func(m *api.Msg) { m.Batch = nil }, api.OK},
		{2, func(m *api.Msg) { m.Batch = batch(4) }, api.OK},
		{2, func(m *api.Msg) { m.Batch = append(batch(4), batch(1)...) }, api.ErrLong},
		{2, func(m *api.Msg) { m.Batch, m.Sign = append(batch(2), batch(1)...), api.Sign{} }, api.ErrTwice},
		{2, func(m *api.Msg) { m.Digest, m.Batch[0].Request.Time = 0, 0 }, api.ErrMessage},
		{2, func(m *api.Msg) { m.Batch[0].Request.Time, m.Sign = 0, api.Sign{} }, api.ErrRequest},
		{2, func(m *api.Msg) { m.Sign, m.Time = api.Sign{}, 1 }, api.ErrSign},

		{3, func(m *api.Msg) { m.From = -1 }, api.ErrMessage},
		{3, func(m *api.Msg) { m.From = 13 }, api.ErrMessage},
		{3, func(m *api.Msg) { m.View = -1 }, api.ErrMessage},
		{3, func(m *api.Msg) { m.Seq = 0 }, api.ErrMessage},
		{3, func(m *api.Msg) { m.Digest = 0 }, api.ErrMessage},
		{3, func(m *api.Msg) { m.Sign.Key = 2 }, api.OK}, // whose it is, is not asked
		{3, func(m *api.Msg) { m.Sign.Key = 21 }, api.ErrSign},
		{3, func(m *api.Msg) { m.Sign.Key, m.Digest = 21, 0 }, api.ErrMessage},
		{3, func(m *api.Msg) { m.Sign.Key, m.Batch = 21, batch(1) }, api.ErrSign},
		{3, func(m *api.Msg) { m.Batch = batch(1) }, api.ErrMessage},
		{3, func(m *api.Msg) { m.Batch = batch(5) }, api.ErrMessage},
		{4, func(m *api.Msg) { m.View = 1<<53 + 1 }, api.ErrMessage},
		{4, func(m *api.Msg) { m.Sign = api.Sign{} }, api.ErrSign},

		{5, func(m *api.Msg) { m.Client = 8 }, api.ErrMessage},
		{5, func(m *api.Msg) { m.Client = 7 }, api.OK},
		{5, func(m *api.Msg) { m.Time = -1 }, api.ErrMessage},
		{5, func(m *api.Msg) { m.Time = 0 }, api.OK},
		{5, func(m *api.Msg) { m.Result.Err = -1 }, api.ErrMessage},
		{5, func(m *api.Msg) { m.Result.Err = 1 << 16 }, api.OK},
		{5, func(m *api.Msg) { m.Result.Err = 1<<16 + 1 }, api.ErrMessage},
		{5, func(m *api.Msg) { m.Result.Offset = -1 }, api.ErrMessage},
		{5, func(m *api.Msg) { m.Result.Offset = 1 << 53 }, api.OK},
		{5, func(m *api.Msg) { m.Result.Offset = 1<<53 + 1 }, api.ErrMessage},
		{5, func(m *api.Msg) { m.Result.Offset, m.Sign = -1, api.Sign{} }, api.ErrMessage},

		{6, func(m *api.Msg) { m.View = 1 }, api.ErrMessage},
		{6, func(m *api.Msg) { m.View, m.Sign = 1, api.Sign{} }, api.ErrSign},
		{6, func(m *api.Msg) { m.Seq = 0 }, api.ErrMessage},

		{7, func(m *api.Msg) { m.Changes = nil }, api.ErrMessage},
		{7, func(m *api.Msg) { m.Changes = []api.Change{} }, api.ErrMessage},
		{7, func(m *api.Msg) { m.Changes = append(m.Changes, m.Changes[0]) }, api.ErrMessage},
		{7, func(m *api.Msg) { m.Changes = make([]api.Change, 2) }, api.ErrMessage},
		{7, func(m *api.Msg) { m.From = 2 }, api.ErrMessage},
		{7, func(m *api.Msg) { m.From = 0 }, api.ErrMessage},
		{7, func(m *api.Msg) { m.View = 3 }, api.ErrMessage},
		{7, func(m *api.Msg) { m.View = 0 }, api.ErrMessage},
		{7, func(m *api.Msg) { m.Changes[0].From = 2 }, api.ErrMessage},
		{7, func(m *api.Msg) { m.Changes[0].View = 3 }, api.ErrMessage},
		{7, func(m *api.Msg) { m.From, m.Changes[0].Sign.Digest = 2, 0 }, api.ErrSign}, // the change is asked ahead
		{7, func(m *api.Msg) { m.View, m.Changes[0].Sign.Digest = -1, 0 }, api.ErrSign},
		{7, func(m *api.Msg) { m.Changes[0].Sign.Digest, m.Changes = 0, append(m.Changes, m.Changes[0]) }, api.ErrMessage},
		{7, func(m *api.Msg) { m.Sign = sign(1, 77) }, api.ErrMessage},
		{7, func(m *api.Msg) { m.Sign, m.Changes[0].Sign = sign(1, 77), api.Sign{} }, api.ErrSign},

		{8, func(m *api.Msg) { m.View = 0 }, api.ErrMessage},
		{8, func(m *api.Msg) { m.View = 1 }, api.OK}, // that of the changes is not asked
		{8, func(m *api.Msg) { m.Changes = nil }, api.OK},
		{8, func(m *api.Msg) { m.Changes = changes(13) }, api.OK},
		{8, func(m *api.Msg) { m.Changes = slices.Repeat(changes(1), 14) }, api.ErrMessage},
		{8, func(m *api.Msg) { m.Entries = entries(8) }, api.OK},
		{8, func(m *api.Msg) { m.Entries = entries(9) }, api.ErrMessage},
		{8, func(m *api.Msg) { m.Entries[1].View = -1 }, api.ErrMessage},
		{8, func(m *api.Msg) { m.Entries[1].View = 0 }, api.OK},
		{8, func(m *api.Msg) { m.Entries[1].Seq = 0 }, api.ErrMessage},
		{8, func(m *api.Msg) { m.Entries[1].Batch = append(batch(4), batch(1)...) }, api.ErrLong},
		{8, func(m *api.Msg) { m.Entries[1].Sign = api.Sign{} }, api.ErrSign},
		{8, func(m *api.Msg) { m.Changes[0].Sign, m.Entries = api.Sign{}, entries(9) }, api.ErrSign},
		{8, func(m *api.Msg) { m.Entries[1].Batch[0].Request.Time, m.Entries[1].Sign = 0, api.Sign{} }, api.ErrRequest},
		{8, func(m *api.Msg) { m.Entries[0].Sign, m.Entries[1].Seq = api.Sign{}, 0 }, api.ErrSign},
		{8, func(m *api.Msg) { m.Entries[1].Seq, m.Sign = 0, api.Sign{} }, api.ErrMessage},

		{9, func(m *api.Msg) { m.Seq = 0 }, api.OK},
		{9, func(m *api.Msg) { m.Seq = -1 }, api.ErrMessage},
		{9, func(m *api.Msg) { m.Digest = 1 }, api.ErrMessage},

		{10, func(m *api.Msg) { m.State = nil }, api.OK},
		{10, func(m *api.Msg) { m.State = make([]byte, 1<<18) }, api.OK}, // though its form is longer than a form may be
		{10, func(m *api.Msg) { m.State = make([]byte, 1<<18+1) }, api.ErrMessage},
		{10, func(m *api.Msg) { m.State, m.Cert.Signs[0] = make([]byte, 1<<18+1), api.Sign{} }, api.ErrSign},
		{10, func(m *api.Msg) { m.Sign = sign(1, 1) }, api.ErrMessage},

		{11, func(m *api.Msg) { m.Topic = "" }, api.ErrName},
		{11, func(m *api.Msg) { m.Topic = strings.Repeat("x", 17) }, api.ErrName},
		{11, func(m *api.Msg) { m.Topic = strings.Repeat("x", 1000) }, api.ErrName},
		{11, func(m *api.Msg) { m.Client, m.Topic = -1, "" }, api.ErrMessage},
		{11, func(m *api.Msg) { m.Topic, m.Offset = "", -1 }, api.ErrName},
		{11, func(m *api.Msg) { m.Topic, m.From = "", 1 }, api.ErrName},
		{11, func(m *api.Msg) { m.From = 1 }, api.ErrMessage},

		{12, func(m *api.Msg) { m.Topic = "t" }, api.ErrMessage},
		{12, func(m *api.Msg) { m.Offset = 3 }, api.ErrMessage},
		{12, func(m *api.Msg) { m.From, m.Proof.Topic = 13, "" }, api.ErrMessage},
		{12, func(m *api.Msg) { m.Cert = cert() }, api.ErrMessage},
	} {
		m := msg(x.kind, x.do)
		if e := message.Check(m); e != x.e {
			t.Errorf("%d: Check(%+v) = %d, want %d", i, m, e, x.e)
		}
	}
}

// P10.1: each field that a Kind does not have, set alone.
func TestCheckOthersFields(t *testing.T) {
	has := map[int]string{
		1: "batch", 2: "from view seq digest batch sign", 3: "from view seq digest sign", 4: "from view seq digest sign", 5: "from view client time result sign", 6: "from seq digest sign",
		7: "from view changes", 8: "from view changes entries sign", 9: "from seq sign", 10: "from cert state", 11: "client topic offset", 12: "from proof",
	}
	for name, l := range map[string][]func(m *api.Msg){
		"from":    {func(m *api.Msg) { m.From = 1 }, func(m *api.Msg) { m.From = -1 }},
		"view":    {func(m *api.Msg) { m.View = 1 }, func(m *api.Msg) { m.View = -1 }},
		"seq":     {func(m *api.Msg) { m.Seq = 1 }, func(m *api.Msg) { m.Seq = -1 }},
		"digest":  {func(m *api.Msg) { m.Digest = 1 }, func(m *api.Msg) { m.Digest = -1 }},
		"client":  {func(m *api.Msg) { m.Client = 1 }, func(m *api.Msg) { m.Client = -1 }},
		"time":    {func(m *api.Msg) { m.Time = 1 }, func(m *api.Msg) { m.Time = -1 }},
		"result":  {func(m *api.Msg) { m.Result.Err = 1 }, func(m *api.Msg) { m.Result.Offset = 1 }},
		"batch":   {func(m *api.Msg) { m.Batch = make(api.Batch, 1) }, func(m *api.Msg) { m.Batch = batch(2) }},
		"cert":    {func(m *api.Msg) { m.Cert.Seq = 1 }, func(m *api.Msg) { m.Cert.Digest = 1 }, func(m *api.Msg) { m.Cert.Signs = make([]api.Sign, 1) }},
		"changes": {func(m *api.Msg) { m.Changes = make([]api.Change, 1) }, func(m *api.Msg) { m.Changes = changes(2) }},
		"entries": {func(m *api.Msg) { m.Entries = make([]api.Entry, 1) }},
		"state":   {func(m *api.Msg) { m.State = make([]byte, 1) }},
		"topic":   {func(m *api.Msg) { m.Topic = "t" }, func(m *api.Msg) { m.Topic = "\x00" }},
		"offset":  {func(m *api.Msg) { m.Offset = 1 }},
		"proof": {
			func(m *api.Msg) { m.Proof.Topic = "t" }, func(m *api.Msg) { m.Proof.Offset = 1 }, func(m *api.Msg) { m.Proof.Record = make(api.Record, 1) },
			func(m *api.Msg) { m.Proof.Headers = make([]api.Header, 1) }, func(m *api.Msg) { m.Proof.Index = 1 }, func(m *api.Msg) { m.Proof.Count = 1 },
			func(m *api.Msg) { m.Proof.Path = make([]api.Digest, 1) },
			func(m *api.Msg) { m.Proof.Cert.Seq = 1 }, func(m *api.Msg) { m.Proof.Cert.Digest = 1 }, func(m *api.Msg) { m.Proof.Cert.Signs = make([]api.Sign, 1) },
		},
		"sign": {func(m *api.Msg) { m.Sign.Key = 1 }, func(m *api.Msg) { m.Sign.Digest = 1 }},
	} {
		for i, do := range l {
			for _, m := range normal(slices.Concat(ordinary(), small())) {
				if slices.Contains(strings.Fields(has[m.Kind]), name) {
					continue
				}
				do(&m)
				if e := message.Check(m); e != api.ErrMessage {
					t.Errorf("Check of Kind %d with %s %d: %d", m.Kind, name, i, e)
				}
			}
		}
	}
}

// R4: lists that are empty are nil ones, within a message and where its Kind has none.
func TestCheckEmpty(t *testing.T) {
	for _, m := range samples() {
		want := modelOf(m)
		m = emptied(m)
		if e := message.Check(m); e != api.OK {
			t.Errorf("Check of Kind %d with empty lists: %d", m.Kind, e)
		}
		if b, e := message.Bytes(m); e != api.OK || string(b) != string(want.b) {
			t.Errorf("Bytes of Kind %d with empty lists: %d", m.Kind, e)
		}
	}
}

// told tells where a message has not the error, the bytes and the bytes without a sign that the tests' own words give it.
func told(t *testing.T, m api.Msg) api.Errno {
	t.Helper()
	want := modelOf(m)
	if e := message.Check(m); e != want.e {
		t.Fatalf("Check(%+v) = %d, want %d", m, e, want.e)
	}
	long := want.e == 0 && len(want.b) > 1<<18
	if long {
		want.e = 3
	}
	if b, e := message.Bytes(m); e != want.e || e != 0 && b != nil || e == 0 && string(b) != string(want.b) {
		t.Fatalf("Bytes(%+v) = %v, %d, want %d", m, b, e, want.e)
	}
	parsed(t, m, want.b)
	return want.e
}

// parsed tells where Parse of a message's form says something else than the tests' own words.
func parsed(t *testing.T, m api.Msg, form []byte) {
	t.Helper()
	want := eaten("", form)
	x, e := message.Parse(form)
	if e != want || e != 0 && !isZero(x) || e == 0 && !same(modelOf(x).b, form) {
		t.Fatalf("Parse(%v) = %+v, %d, want %d of %+v", form, x, e, want, m)
	}
}

// few leaves out most of the knobs where there are so many that there is no time.
func few(n, i int) bool {
	return n > 300 && i%11 > 0
}

// P10.1, P10.2: each number, name and list of each message, of those that its Kind does not have, too, set alone to each of many edges.
func TestEachAlone(t *testing.T) {
	count := map[api.Errno]int{}
	for _, m := range light() {
		n := len(knobs(&m))
		for i := range n {
			if few(n, i) {
				continue
			}
			for j := range turns(knobs(&m)[i]) {
				x := normal(m)
				turns(knobs(&x)[i])[j]()
				count[told(t, x)]++
			}
		}
	}
	for _, e := range []api.Errno{api.OK, api.ErrLong, api.ErrTwice, api.ErrOp, api.ErrName, api.ErrRecord, api.ErrRequest, api.ErrSign, api.ErrMessage} {
		if count[e] < 3 {
			t.Errorf("only %d with the error %d", count[e], e)
		}
	}
}

// P10.1, P10.2: two or three things wrong at once: the first error.
func TestSomeTogether(t *testing.T) {
	dice := rand.New(rand.NewSource(10))
	l := slices.Concat(ordinary(), small())
	for range 30000 {
		m := normal(l[dice.Intn(len(l))])
		for range 2 + dice.Intn(2) {
			k := knobs(&m)
			v := turns(k[dice.Intn(len(k))])
			v[dice.Intn(len(v))]()
		}
		told(t, m)
	}
}

// P10.1, P10.2: each alone, of certificates, changes and proofs, which have calls of their own.
func TestPartsEachAlone(t *testing.T) {
	for _, c := range certs() {
		eachAlone(t, c, "cert", message.CheckCert, message.CertBytes, message.ParseCert)
	}
	for _, c := range someChanges() {
		eachAlone(t, c, "change", message.CheckChange, message.ChangeBytes, message.ParseChange)
	}
	for _, p := range proofs() {
		eachAlone(t, p, "proof", message.CheckProof, message.ProofBytes, message.ParseProof)
	}
}

func eachAlone[T any](t *testing.T, x T, form string, check func(T) api.Errno, bytes func(T) ([]byte, api.Errno), parse func([]byte) (T, api.Errno)) {
	t.Helper()
	n := len(knobs(&x))
	for i := range n {
		if few(n, i) {
			continue
		}
		for j := range turns(knobs(&x)[i]) {
			y := normal(x)
			turns(knobs(&y)[i])[j]()
			want := modelOf(y)
			if e := check(y); e != want.e {
				t.Fatalf("%s: Check(%+v) = %d, want %d", form, y, e, want.e)
			}
			if b, e := bytes(y); e != want.e || e != 0 && b != nil || e == 0 && string(b) != string(want.b) {
				t.Fatalf("%s: Bytes(%+v) = %v, %d, want %d", form, y, b, e, want.e)
			}
			if z, e := parse(want.b); e != eaten(form, want.b) || e != 0 && !isZero(z) || e == 0 && !same(modelOf(z).b, want.b) {
				t.Fatalf("%s: Parse(%v) = %+v, %d, want %d", form, want.b, z, e, eaten(form, want.b))
			}
		}
	}
}

// R1, THE BOUND: what is great is refused without a long look.
func TestCheckGreat(t *testing.T) {
	const n = 1 << 20
	l := []api.Msg{
		{Kind: api.MsRequest, Batch: make(api.Batch, n)},
		msg(2, func(m *api.Msg) { m.Batch = make(api.Batch, n) }),
		msg(3, func(m *api.Msg) { m.Changes = make([]api.Change, n) }),
		msg(7, func(m *api.Msg) { m.Changes = make([]api.Change, n) }),
		msg(7, func(m *api.Msg) { m.Changes[0].Above = make([]api.Prepared, n) }),
		msg(7, func(m *api.Msg) { m.Changes[0].Cert.Signs = make([]api.Sign, n) }),
		msg(8, func(m *api.Msg) { m.Entries = make([]api.Entry, n) }),
		msg(10, func(m *api.Msg) { m.State = make([]byte, 16*n) }),
		msg(11, func(m *api.Msg) { m.Topic = strings.Repeat("x", 16*n) }),
		msg(12, func(m *api.Msg) { m.Proof.Topic = strings.Repeat("x", 16*n) }),
		msg(12, func(m *api.Msg) { m.Proof.Record = make(api.Record, 16*n) }),
		msg(12, func(m *api.Msg) { m.Proof.Headers = make([]api.Header, n) }),
	}
	used := allocated(func() {
		for i, m := range l {
			if e := message.Check(m); e == api.OK {
				t.Error(i)
			}
			if b, e := message.Bytes(m); e == api.OK || b != nil {
				t.Error(i)
			}
			if b, e := message.Unsigned(m); e == api.OK || b != nil {
				t.Error(i)
			}
		}
	})
	if used > 1<<20 {
		t.Errorf("%d bytes of memory", used)
	}
}
