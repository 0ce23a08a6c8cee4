package block_test

import (
	"bytes"
	"slices"
	"strings"
	"testing"

	"bulla/api"
	"bulla/block"
	"bulla/topics"
)

// P9.1: Digest is the table's number of a header's bytes, twice the same.
func TestDigest(t *testing.T) {
	p := table([]byte("a"), form(api.Header{Seq: 7}))
	for _, h := range append(goodHeaders()[:2000], api.Header{Seq: 7}) {
		want := p.m.sum(form(h))
		for range 2 {
			if d, e := block.Digest(p.x, h); d != want || e != api.OK {
				t.Fatalf("Digest(%+v) = %d, %d, want %d", h, d, e, want)
			}
		}
	}
	p.same(t)
	if d, e := block.Digest(table().x, api.Header{}); d != 1 || e != api.OK {
		t.Errorf("Digest in a new table: %d, %d", d, e)
	}
}

// P9.1: Digest of headers that may not be: nothing is learnt, also where the table is full.
func TestDigestRefuses(t *testing.T) {
	for _, p := range []pair{table(), table([]byte("a")), crowded(0)} {
		for _, h := range badHeaders() {
			if d, e := block.Digest(p.x, h); d != 0 || e != api.ErrHeader {
				t.Errorf("Digest(%+v) = %d, %d", h, d, e)
			}
		}
		p.same(t)
	}
}

// P9.1, R5: with a table that no call made, ErrMade comes first.
func TestDigestOfNoCall(t *testing.T) {
	for _, x := range tablesOfNoCall() {
		for _, h := range append(badHeaders(), api.Header{}, api.Header{Seq: maxNum}) {
			if d, e := block.Digest(x, h); d != 0 || e != api.ErrMade {
				t.Errorf("Digest(%+v) = %d, %d", h, d, e)
			}
		}
		if x.Len() != 0 {
			t.Error("a table that no call made has learnt")
		}
	}
}

// P9.1: Digest over a full table, and over one that has room for one.
func TestDigestFull(t *testing.T) {
	h, k := api.Header{Seq: 1}, api.Header{Seq: 2}
	p := crowded(1, form(h))
	for _, c := range []struct {
		h api.Header
		d api.Digest
		e api.Errno
	}{
		{h, api.MaxSums - mostRoom + 1, api.OK},
		{k, api.MaxSums, api.OK}, // the last number
		{api.Header{Seq: 3}, 0, api.ErrFull},
		{api.Header{}, 0, api.ErrFull},
		{k, api.MaxSums, api.OK},
		{h, api.MaxSums - mostRoom + 1, api.OK},
	} {
		if d, e := block.Digest(p.x, c.h); d != c.d || e != c.e {
			t.Errorf("Digest(%+v) = %d, %d, want %d, %d", c.h, d, e, c.d, c.e)
		}
	}
	p.m.sum(form(k))
	p.same(t)
}

// P9.2: Genesis in tables that know something, or all of it, or nothing; full ones and such as have room for one alone.
func TestGenesis(t *testing.T) {
	none, state := []byte{2}, newTopicsForm()
	if g, e := block.Genesis(table().x); e != api.OK || g != (api.Header{Root: 1, State: 2}) {
		t.Errorf("Genesis in a new table: %+v, %d", g, e)
	}
	for i, texts := range [][][]byte{nil, {none}, {state}, {state, none}, {none, state}, {[]byte("a"), nil, {0}}, {[]byte("a"), state, []byte("b")}, {form(api.Header{})}} {
		l := []pair{table(texts...)}
		for room := range 4 {
			l = append(l, crowded(room, texts...))
		}
		for _, p := range l {
			for range 2 {
				want, f := p.m.genesis()
				if g, e := block.Genesis(p.x); g != want || e != f {
					t.Errorf("%d: Genesis = %+v, %d, want %+v, %d", i, g, e, want, f)
				}
				p.same(t)
			}
		}
	}
}

// P9.2: what Genesis has learnt in a full table, told one by one.
func TestGenesisFull(t *testing.T) {
	none, state := []byte{2}, newTopicsForm()
	for _, c := range []struct {
		room  int
		texts [][]byte
		e     api.Errno
		learn int
	}{
		{0, nil, api.ErrFull, 0},
		{1, nil, api.ErrFull, 1}, // the root is asked for first
		{2, nil, api.OK, 2},
		{0, [][]byte{none}, api.ErrFull, 0},
		{0, [][]byte{state}, api.ErrFull, 0},
		{0, [][]byte{state, none}, api.OK, 0},
		{1, [][]byte{none}, api.OK, 1},
		{1, [][]byte{state}, api.OK, 1},
	} {
		p := crowded(c.room, c.texts...)
		had := p.x.Len()
		if g, e := block.Genesis(p.x); e != c.e || e != api.OK && g != (api.Header{}) || p.x.Len() != had+c.learn {
			t.Errorf("Genesis with room for %d: %+v, %d, and %d more", c.room, g, e, p.x.Len()-had)
		}
		if _, known := p.x.Look(none); c.learn == 1 && c.e != api.OK && !known {
			t.Error("the root of no leaves is not asked for first")
		}
	}
}

// P9.2, R5: Genesis with a table that no call made.
func TestGenesisOfNoCall(t *testing.T) {
	for _, x := range tablesOfNoCall() {
		if g, e := block.Genesis(x); g != (api.Header{}) || e != api.ErrMade || x.Len() != 0 {
			t.Errorf("Genesis = %+v, %d", g, e)
		}
	}
}

// P9.2: Genesis may be, and stands for nothing that was done.
func TestGenesisMayBe(t *testing.T) {
	p, u, g := begun(t)
	if block.Check(g) != api.OK || g.Seq != 0 || g.Prev != 0 || g.Batch != 0 || g.State != u.Digest(p.x) {
		t.Errorf("Genesis = %+v", g)
	}
	if !block.Chain(p.x, g) {
		t.Error("Genesis alone is no chain")
	}
}

// P9.2: Leaves, of none, of one and of several, also of records of no bytes and places that may not be.
func TestLeaves(t *testing.T) {
	l := []api.Placed{
		{Topic: "t", Offset: 300, Record: api.Record{7, 8}}, {}, {Topic: "t"}, {Topic: "größe", Offset: maxNum, Record: api.Record{}},
		{Topic: "t", Offset: -1, Record: api.Record{9}}, {Topic: "a/b", Offset: 1<<63 - 1, Record: bytes.Repeat([]byte{1}, 1000)}, {Topic: "t", Offset: 300, Record: api.Record{7, 8}},
	}
	for from := range l {
		for to := from; to <= len(l); to++ {
			got := block.Leaves(l[from:to]...)
			if len(got) != to-from {
				t.Fatalf("%d Leaves of %d", len(got), to-from)
			}
			for i, b := range got {
				if p := l[from+i]; !bytes.Equal(b, placedForm(p)) || !bytes.Equal(b, topics.PlacedBytes(p)) {
					t.Errorf("the leaf of %+v: %v", p, b)
				}
			}
		}
	}
	for _, l := range [][]api.Placed{nil, {}} {
		if got := block.Leaves(l...); len(got) != 0 {
			t.Errorf("Leaves of none: %v", got)
		}
	}
	for _, c := range []struct {
		p api.Placed
		b []byte
	}{
		{api.Placed{Topic: "t", Offset: 300, Record: api.Record{7, 8}}, []byte{1, 't', 172, 2, 2, 7, 8}},
		{api.Placed{Topic: "t"}, []byte{1, 't', 0, 0}},
		{api.Placed{}, []byte{0, 0, 0}},
	} {
		if got := block.Leaves(c.p); len(got) != 1 || !bytes.Equal(got[0], c.b) {
			t.Errorf("Leaves(%+v) = %v, want %v", c.p, got, c.b)
		}
	}
}

// R3: Leaves neither writes to records nor keeps them, and no two leaves share memory.
func TestLeavesKeepOff(t *testing.T) {
	one := []byte("abcdefgh")
	fresh := func() []api.Placed {
		return []api.Placed{{Topic: "t", Record: one[:2]}, {Topic: "t", Offset: 1, Record: one[2:2]}, {Topic: "t", Offset: 2, Record: one[1:4]}}
	}
	l := fresh()
	got, again := block.Leaves(l...), block.Leaves(l...)
	if !samePlaced(l, fresh()) || string(one) != "abcdefgh" {
		t.Errorf("Leaves wrote to %+v", l)
	}
	scribblePlaced(l)
	for _, b := range got {
		_ = append(b, "scribble"...)
	}
	copy(one, "abcdefgh")
	for i, p := range fresh() {
		if !bytes.Equal(got[i], placedForm(p)) {
			t.Errorf("a leaf sees what is written: %q", got[i])
		}
		scribbleBytes(got[i])
		if !bytes.Equal(again[i], placedForm(p)) {
			t.Errorf("a leaf is somebody else's: %q", again[i])
		}
	}
	if string(one) != "abcdefgh" {
		t.Errorf("a leaf is a record's own memory: %q", one)
	}
}

// THE BOUND: Leaves of very many records.
func TestLeavesNearLinear(t *testing.T) {
	l := slices.Repeat([]api.Placed{{Topic: "t", Record: api.Record(strings.Repeat("x", 64))}}, 1<<15)
	var got [][]byte
	if m := allocated(func() { got = block.Leaves(l...) }); len(got) != len(l) || m > 64<<20 {
		t.Errorf("%d leaves, with %d bytes of memory", len(got), m)
	}
}
