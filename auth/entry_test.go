package auth_test

import (
	"math"
	"testing"

	"bulla/api"
	"bulla/auth"
)

// entry is one that nobody signed.
func entry(view, seq int64, b api.Batch) api.Entry {
	return api.Entry{View: view, Seq: seq, Batch: b, Sign: sign(7, 7777)}
}

// P11.4: Entry, told one by one: the batch has a number ahead of the vote.
func TestEntry(t *testing.T) {
	h := newHouse()
	for _, c := range []struct {
		key int
		x   api.Entry
		s   api.Sign
		n   int // texts that the table knows then
	}{
		{2, entry(2, 1, nil), sign(2, 2), 2},
		{2, entry(2, 1, api.Batch{}), sign(2, 2), 2},
		{3, entry(2, 1, nil), sign(3, 2), 2},
		{2, entry(2, 2, nil), sign(2, 3), 3},
		{2, entry(3, 1, nil), sign(2, 4), 4},
		{2, entry(2, 1, batch(2)), sign(2, 6), 6},
		{2, entry(2, 1, batch(4)), sign(2, 8), 8},
		{20, entry(most, most, batch(1)), sign(20, 10), 10},
		{0, entry(0, 0, batch(1)), sign(0, 11), 11},
	} {
		y, e := h.entry(t, c.key, c.x)
		if y.Sign != c.s || e != api.OK || h.x.Len() != c.n {
			t.Errorf("Entry of %d, %+v = %v, %d, want %v; %d texts", c.key, c.x, y.Sign, e, c.s, h.x.Len())
		}
		h.validEntry(t, true, c.key, y)
	}
	for d, want := range map[api.Digest][]byte{1: {0}, 2: {4, 2, 2, 1, 1}, 3: {4, 2, 2, 2, 1}, 5: batchForm(batch(2)), 6: {4, 2, 2, 1, 5}} {
		if b, _ := h.x.Open(d); string(b) != string(want) {
			t.Errorf("the text %d is %v, want %v", d, b, want)
		}
	}
}

// P11.4: an entry's signature is that of a pre-prepare's vote, and of a sealed pre-prepare.
func TestEntryIsVote(t *testing.T) {
	h := newHouse()
	m := h.sealed(t, api.Msg{Kind: api.MsPrePrepare, From: 2, View: 6, Seq: 3, Digest: 1, Batch: batch(2)})
	h = newHouse(batchForm(batch(2)))
	y, _ := h.entry(t, 2, entry(6, 3, batch(2)))
	h.validVote(t, true, y.Sign, 2, vote{2, 6, 3, 1})
	h.validVote(t, false, y.Sign, 2, vote{3, 6, 3, 1})
	m.Sign = y.Sign
	h.valid(t, true, m)
	for _, kind := range []int64{1, 3, 4, 6, 9} { // votes of other kinds, for the same
		s, _ := h.vote(t, 2, vote{kind, 6, 3, 1})
		h.validEntry(t, false, 2, api.Entry{View: 6, Seq: 3, Batch: batch(2), Sign: s})
	}
	h.validEntry(t, true, 2, y)
}

// P11.4: each key, and such as there are not.
func TestEntryKeys(t *testing.T) {
	h := newHouse()
	x := entry(2, 1, batch(1))
	for _, key := range badKeys() { // nothing is learnt, not even the batch
		if y, e := h.entry(t, key, x); e != api.ErrKey || !same(y, api.Entry{}) || h.x.Len() != 0 {
			t.Errorf("Entry of %d: %+v, %d, %d texts", key, y, e, h.x.Len())
		}
		h.validEntry(t, false, key, x)
		h.validEntry(t, false, key, api.Entry{View: 2, Seq: 1, Batch: x.Batch})
	}
	for key := range 21 {
		y, e := h.entry(t, key, x)
		if e != api.OK || y.Sign != sign(key, 2) {
			t.Errorf("Entry of %d: %+v, %d", key, y, e)
		}
		for other := -1; other < 22; other++ {
			h.validEntry(t, other == key, other, y)
		}
	}
}

// P11.4: View and Seq at each edge alone.
func TestEntryEdges(t *testing.T) {
	for _, b := range []api.Batch{nil, batch(3)} {
		for _, n := range edges() {
			for i, x := range []api.Entry{entry(n, 5, b), entry(5, n, b), entry(n, n, b)} {
				h := newHouse()
				want := api.OK
				if n < 0 || n > most {
					want = api.ErrArg
				}
				y, e := h.entry(t, 4, x)
				if e != want {
					t.Errorf("%d: Entry of %d: %d, want %d", i, n, e, want)
				}
				h.validEntry(t, e == api.OK, 4, y)
				if e != api.OK { // though all its bytes are known and signed
					d := h.m.copy().sum(batchForm(b))
					h.learn(batchForm(b), vote{2, x.View, x.Seq, int64(d)}.form())
					h.sign(sign(4, 1), sign(4, 2))
					x.Sign = sign(4, 2)
					h.validEntry(t, false, 4, x)
				}
			}
		}
	}
}

// P11.4: batches that may not be; which error comes first; nothing is learnt by any.
func TestEntryErrors(t *testing.T) {
	h := newHouse()
	for want, b := range badBatches() {
		for _, x := range []api.Entry{entry(2, 1, b), entry(-1, 1, b), entry(2, most+1, b)} {
			for _, key := range []int{0, 20, 21, -1} {
				if y, e := h.entry(t, key, x); e != want || !same(y, api.Entry{}) {
					t.Errorf("Entry of %d, %+v = %+v, %d, want %d", key, x, y, e, want)
				}
				h.validEntry(t, false, key, x)
			}
		}
	}
	for _, c := range []struct {
		key int
		x   api.Entry
		e   api.Errno
	}{
		{0, entry(-1, 1, batch(1)), api.ErrArg},
		{0, entry(2, -1, batch(1)), api.ErrArg},
		{21, entry(-1, 1, batch(1)), api.ErrArg},
		{21, entry(2, most+1, nil), api.ErrArg},
		{21, entry(2, 1, nil), api.ErrKey},
	} {
		if y, e := h.entry(t, c.key, c.x); e != c.e || !same(y, api.Entry{}) {
			t.Errorf("Entry of %d, %+v = %+v, %d, want %d", c.key, c.x, y, e, c.e)
		}
	}
	if h.x.Len() != 0 || h.l.Len() != 0 {
		t.Errorf("%d texts, %d signatures", h.x.Len(), h.l.Len())
	}
}

// P11.4: a batch that may not be is none of a valid entry, though nothing that PutBatch puts of it is known and signed.
func TestValidEntryOfBadBatch(t *testing.T) {
	for _, b := range badBatches() {
		h := newHouse(nil, vote{2, 2, 1, 1}.form(), vote{2, 2, 1, 0}.form())
		h.sign(sign(4, 1), sign(4, 2), sign(4, 3))
		for d := range api.Digest(4) {
			h.validEntry(t, false, 4, api.Entry{View: 2, Seq: 1, Batch: b, Sign: sign(4, d)})
		}
	}
}

// P11.4: tables that are full, or nearly so. Where one of the two texts has no number, the other one is not learnt.
func TestEntryFull(t *testing.T) {
	b, at := batch(2), api.Digest(api.MaxSums-mostRoom)
	form := batchForm(b)
	for i, c := range []struct {
		room  int
		known [][]byte
		key   int
		x     api.Entry
		s     api.Sign
		e     api.Errno
	}{
		{0, nil, 4, entry(2, 1, b), api.Sign{}, api.ErrFull},
		{0, nil, 4, entry(-1, 1, b), api.Sign{}, api.ErrFull}, // the batch's number is asked for ahead of the vote
		{0, nil, 21, entry(2, 1, b), api.Sign{}, api.ErrFull},
		{0, nil, 4, entry(2, 1, badBatches()[80]), api.Sign{}, api.ErrRequest},
		{0, [][]byte{form}, 4, entry(2, 1, b), api.Sign{}, api.ErrFull},
		{0, [][]byte{form}, 4, entry(-1, 1, b), api.Sign{}, api.ErrArg},
		{0, [][]byte{form, vote{2, 2, 1, int64(at) + 1}.form()}, 4, entry(2, 1, b), sign(4, at+2), api.OK},
		{0, [][]byte{form, vote{2, 2, 1, int64(at) + 1}.form()}, 21, entry(2, 1, b), api.Sign{}, api.ErrKey},
		{0, [][]byte{vote{2, 2, 1, api.MaxSums}.form()}, 4, entry(2, 1, b), api.Sign{}, api.ErrFull},
		{1, nil, 4, entry(2, 1, b), api.Sign{}, api.ErrFull}, // room for the batch alone
		{1, nil, 4, entry(2, most+1, b), api.Sign{}, api.ErrArg},
		{1, nil, 21, entry(2, 1, b), api.Sign{}, api.ErrFull},
		{1, [][]byte{form}, 4, entry(2, 1, b), sign(4, api.MaxSums), api.OK},
		{1, [][]byte{vote{2, 2, 1, api.MaxSums}.form()}, 4, entry(2, 1, b), sign(4, at+1), api.OK},
		{2, nil, 4, entry(2, 1, b), sign(4, api.MaxSums), api.OK},
		{2, nil, 21, entry(2, 1, b), api.Sign{}, api.ErrKey},
	} {
		h := crowded(c.room, c.known...)
		y, e := h.entry(t, c.key, c.x)
		if y.Sign != c.s || e != c.e {
			t.Errorf("%d: Entry of %d, %+v = %+v, %d, want %v, %d", i, c.key, c.x, y, e, c.s, c.e)
		}
		h.validEntry(t, e == api.OK, c.key, y)
		if e != api.OK && h.x.Len() != api.MaxSums-c.room {
			t.Errorf("%d: %d texts", i, h.x.Len())
		}
	}
}

// P11.4: ErrMade is ahead of all else, and nothing is valid.
func TestEntryOfNoCall(t *testing.T) {
	for _, h := range unmade() {
		h.untouched(t, func() {
			l := []api.Entry{entry(2, 1, nil), entry(2, 1, batch(2)), entry(-1, 1, batch(2)), entry(2, 1, batch(5)), {}}
			for _, b := range badBatches() {
				l = append(l, entry(2, 1, b))
			}
			for _, x := range l {
				for _, key := range []int{0, 20, 21, -1} {
					if y, e := auth.Entry(h.x, h.l, key, x); !same(y, api.Entry{}) || e != api.ErrMade {
						t.Errorf("Entry of %d, %+v = %+v, %d", key, x, y, e)
					}
					if auth.ValidEntry(h.x, h.l, key, x) {
						t.Errorf("ValidEntry of %d, %+v", key, x)
					}
				}
			}
		})
	}
	h := newHouse()
	y, _ := h.entry(t, 1, entry(2, 1, batch(1)))
	if auth.ValidEntry(nil, h.l, 1, y) || auth.ValidEntry(h.x, nil, 1, y) || auth.ValidEntry(nil, nil, 1, y) {
		t.Error("ValidEntry without table or ledger")
	}
}

// P11.4, P11.5: an entry of which one thing is turned is none, also where the table knows all that it says.
func TestEntryTurned(t *testing.T) {
	for _, learnt := range []bool{false, true} {
		for _, b := range []api.Batch{nil, batch(1), batch(3)} {
			h := newHouse()
			y, _ := h.entry(t, 2, entry(6, 3, b))
			h.entry(t, 2, entry(6, 4, batch(2)))
			h.entry(t, 3, entry(6, 3, b))
			for _, o := range turned(y) {
				if same(o, y) {
					continue
				}
				if learnt {
					o := o
					o.Sign = y.Sign
					tryEntry := h.m.copy()
					if z, e := tryEntry.entry(5, o); e == 0 { // another one has signed it
						h.entry(t, 5, z)
					}
				}
				h.validEntry(t, false, 2, o)
			}
			h.validEntry(t, true, 2, y)
		}
	}
}

// P11.4: the batch's number is another one in another table; and signatures over numbers that are none.
func TestValidEntryElsewhere(t *testing.T) {
	b := batch(2)
	h := newHouse()
	y, _ := h.entry(t, 2, entry(6, 3, b))
	o := newHouse([]byte("a"), vote{2, 6, 3, 1}.form()) // the vote's number is the same, but the batch is none
	o.sign(y.Sign)
	o.validEntry(t, false, 2, y)
	o.learn(batchForm(b))
	o.validEntry(t, false, 2, y)
	o.learn(vote{2, 6, 3, 3}.form())
	o.validEntry(t, false, 2, y)
	z, _ := o.entry(t, 2, y)
	o.validEntry(t, true, 2, z)
	h.validEntry(t, false, 2, z)
	for _, d := range []api.Digest{0, -1, 3, 4, most, math.MaxInt64} {
		y.Sign.Digest = d
		h.validEntry(t, false, 2, y)
	}
}

// R3: Entry neither writes to what is handed in nor keeps it, and what it answers is nobody else's.
func TestEntryKeepsOff(t *testing.T) {
	for _, b := range []api.Batch{nil, batch(1), batch(4)} {
		h := newHouse()
		x, written := roomy(entry(6, 3, b))
		first := normal(x)
		y, _ := h.entry(t, 2, x)
		z, _ := h.entry(t, 2, x)
		want := normal(z)
		h.validEntry(t, true, 2, y)
		scribble(&y)
		if !same(x, first) || written() || !same(z, want) {
			t.Errorf("Entry shares memory: %+v, %+v", x, z)
		}
		scribble(&x)
		if !same(z, want) {
			t.Errorf("Entry sees what is written: %+v", z)
		}
		h.validEntry(t, true, 2, z)
	}
}
