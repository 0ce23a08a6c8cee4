package prepared_test

import (
	"slices"
	"testing"

	"bulla/api"
	"bulla/prepared"
)

// toldSame tells where Same, either way, is not what it has to be.
func toldSame(t *testing.T, a, b api.Prepared, want bool) {
	t.Helper()
	x, y := copyOf(a), copyOf(b)
	if prepared.Same(a, b) != want || prepared.Same(b, a) != want {
		t.Errorf("Same(%+v, %+v) is not %v", a, b, want)
	}
	if !same(a, x) || !same(b, y) {
		t.Fatal("Same has written to what it was handed")
	}
}

// P15.3: the same, and unlike ones.
func TestSame(t *testing.T) {
	var l []api.Prepared
	for n := range 29 {
		l = append(l, some(int64(n%3), int64(n%4), n+1))
	}
	l = append(l, api.Prepared{}, newHouse().good(clusters()[0], 1, 2))
	for i, a := range l {
		for j, b := range l {
			toldSame(t, a, b, i == j)
			toldSame(t, copyOf(a), b, i == j)
		}
	}
}

// P15.3: unlike in one field alone, whichever.
func TestSameOneField(t *testing.T) {
	full := some(5, 6, 27) // three signatures, six requests
	for i, change := range []func(p *api.Prepared){
		func(p *api.Prepared) { p.View++ },
		func(p *api.Prepared) { p.View = -p.View },
		func(p *api.Prepared) { p.View += 1 << 32 },
		func(p *api.Prepared) { p.Seq++ },
		func(p *api.Prepared) { p.Seq += 1 << 32 },
		func(p *api.Prepared) { p.View, p.Seq = p.Seq, p.View },
		func(p *api.Prepared) { p.Digest++ },
		func(p *api.Prepared) { p.Digest += 1 << 32 },
		func(p *api.Prepared) { p.First.Key++ },
		func(p *api.Prepared) { p.First.Digest++ },
		func(p *api.Prepared) { p.First = api.Sign{} },
		func(p *api.Prepared) { p.Signs = nil },
		func(p *api.Prepared) { p.Signs = []api.Sign{} },
		func(p *api.Prepared) { p.Signs = p.Signs[1:] },
		func(p *api.Prepared) { p.Signs = p.Signs[:2] },
		func(p *api.Prepared) { p.Signs = append(p.Signs, api.Sign{}) },
		func(p *api.Prepared) { p.Signs[0], p.Signs[1] = p.Signs[1], p.Signs[0] },
		func(p *api.Prepared) { p.Signs[0].Key++ },
		func(p *api.Prepared) { p.Signs[1].Digest++ },
		func(p *api.Prepared) { p.Signs[2].Key++ },
		func(p *api.Prepared) { p.Signs[2].Digest++ },
		func(p *api.Prepared) { p.Batch = nil },
		func(p *api.Prepared) { p.Batch = api.Batch{} },
		func(p *api.Prepared) { p.Batch = p.Batch[1:] },
		func(p *api.Prepared) { p.Batch = p.Batch[:5] },
		func(p *api.Prepared) { p.Batch = append(p.Batch, api.Signed{}) },
		func(p *api.Prepared) { p.Batch[0], p.Batch[1] = p.Batch[1], p.Batch[0] },
		func(p *api.Prepared) { p.Batch[0].Request.Client++ },
		func(p *api.Prepared) { p.Batch[5].Request.Time++ },
		func(p *api.Prepared) { p.Batch[1].Request.Op.Kind++ },
		func(p *api.Prepared) { p.Batch[2].Request.Op.Topic += "x" },
		func(p *api.Prepared) { p.Batch[3].Request.Op.Group += "x" },
		func(p *api.Prepared) { p.Batch[4].Request.Op.Offset++ },
		func(p *api.Prepared) { p.Batch[5].Request.Op.Records = nil },
		func(p *api.Prepared) { p.Batch[0].Request.Op.Records = p.Batch[0].Request.Op.Records[:2] },
		func(p *api.Prepared) { p.Batch[0].Request.Op.Records[0][1]++ },
		func(p *api.Prepared) { p.Batch[5].Request.Op.Records[2] = nil },
		func(p *api.Prepared) { p.Batch[5].Sign.Key++ },
		func(p *api.Prepared) { p.Batch[0].Sign.Digest++ },
	} {
		x, zero := copyOf(full), api.Prepared{}
		change(&x)
		toldSame(t, full, x, false)
		toldSame(t, zero, x, false)
		if same(full, x) {
			t.Errorf("the change %d is none", i)
		}
	}
	one := api.Prepared{}
	for _, x := range []api.Prepared{{View: 1}, {Seq: 1}, {Digest: 1}, {First: api.Sign{Key: 1}}, {First: api.Sign{Digest: 1}}, {Signs: make([]api.Sign, 1)}, {Batch: make(api.Batch, 1)}} {
		toldSame(t, one, x, false)
		toldSame(t, x, x, true)
		one = x
	}
}

// P15.3, R4: empty and nil lists are the same.
func TestSameEmpty(t *testing.T) {
	for _, a := range []api.Prepared{{}, {Signs: []api.Sign{}}, {Batch: api.Batch{}}, {Signs: []api.Sign{}, Batch: api.Batch{}}, {Signs: make([]api.Sign, 0, 4)}} {
		toldSame(t, a, api.Prepared{}, true)
		toldSame(t, a, api.Prepared{Batch: api.Batch{}}, true)
		toldSame(t, a, api.Prepared{Batch: make(api.Batch, 1)}, false)
		toldSame(t, a, api.Prepared{Signs: make([]api.Sign, 1)}, false)
	}
	a, b := some(1, 2, 27), some(1, 2, 27)
	a.Batch[0].Request.Op.Records = nil
	b.Batch[0].Request.Op.Records = []api.Record{}
	a.Batch[1].Request.Op.Records[1] = nil
	b.Batch[1].Request.Op.Records[1] = api.Record{}
	toldSame(t, a, b, true)
	b.Signs = slices.Grow(b.Signs, 9) // of another capacity
	toldSame(t, a, b, true)
}
