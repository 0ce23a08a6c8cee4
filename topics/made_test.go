package topics_test

import (
	"testing"

	"bulla/api"
	"bulla/ideal"
	"bulla/topics"
)

// R5: topics that no call made.
func TestNotMade(t *testing.T) {
	for _, x := range []*topics.Topics{nil, {}, new(topics.Topics)} {
		for range 2 {
			notMade(t, x)
		}
	}
}

func notMade(t *testing.T, x *topics.Topics) {
	t.Helper()
	for _, r := range []api.Request{{}, {Client: 1, Time: 1}, {Client: 1, Time: 1, Op: create("t")}, {Client: -1, Time: -1, Op: api.Op{Kind: 9}}, {Client: 1, Time: 1, Op: publish("t", "x")}} {
		if res, placed, done := x.Apply(r); res != bad(api.ErrMade) || placed != nil || done {
			t.Errorf("Apply(%+v) = %+v, %+v, %v", r, res, placed, done)
		}
	}
	for i := -1; i <= api.MaxClients; i++ {
		if time, res := x.Last(i); time != 0 || res != okay(0) {
			t.Errorf("Last(%d) = %d, %+v", i, time, res)
		}
	}
	if x.Names() != nil || x.Groups("t") != nil || x.Bytes() != nil || x.Clone() != nil {
		t.Errorf("%q, %q, %v, %v", x.Names(), x.Groups("t"), x.Bytes(), x.Clone())
	}
	if a, b, e := x.Bounds("t"); a != 0 || b != 0 || e != api.ErrMade {
		t.Errorf("Bounds: %d, %d, %d", a, b, e)
	}
	if r, e := x.Get("t", 0); r != nil || e != api.ErrMade {
		t.Errorf("Get: %v, %d", r, e)
	}
	if n, e := x.Committed("t", "g"); n != 0 || e != api.ErrMade {
		t.Errorf("Committed: %d, %d", n, e)
	}
	for offset, r := range x.All("t") {
		t.Errorf("All tells %d, %q", offset, r)
	}
	table := ideal.NewTable()
	if d := x.Digest(table); d != 0 || table.Len() != 0 {
		t.Errorf("Digest: %d, and the table has %d", d, table.Len())
	}
	if d := x.Digest(nil); d != 0 {
		t.Errorf("Digest: %d", d)
	}
}
