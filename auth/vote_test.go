package auth_test

import (
	"bytes"
	"math"
	"testing"

	"bulla/api"
	"bulla/auth"
)

// P11.1: VoteBytes, told byte by byte.
func TestVoteBytes(t *testing.T) {
	top := []byte{128, 128, 128, 128, 128, 128, 128, 16} // 2^53
	for _, c := range []struct {
		v vote
		b []byte
	}{
		{vote{3, 1, 2, 5}, []byte{4, 3, 1, 2, 5}},
		{vote{}, []byte{4, 0, 0, 0, 0}},
		{vote{127, 128, 300, 1 << 14}, []byte{4, 127, 128, 1, 172, 2, 128, 128, 1}},
		{vote{300, 1, 2, 3}, []byte{4, 172, 2, 1, 2, 3}},
		{vote{most, 1, 2, 3}, join([]byte{4}, top, []byte{1, 2, 3})},
		{vote{1, 2, 3, most}, join([]byte{4, 1, 2, 3}, top)},
		{vote{-1, 1, 2, 5}, []byte{4, 0, 1, 2, 5}},
		{vote{3, -1, 2, 5}, []byte{4, 3, 0, 2, 5}},
		{vote{3, 1, -1, 5}, []byte{4, 3, 1, 0, 5}},
		{vote{3, 1, 2, -1}, []byte{4, 3, 1, 2, 0}},
		{vote{math.MinInt64, math.MinInt64, math.MinInt64, math.MinInt64}, []byte{4, 0, 0, 0, 0}},
		{vote{3, most + 1, 2, 5}, []byte{4, 3, 129, 128, 128, 128, 128, 128, 128, 16, 2, 5}},
		{vote{3, 1, math.MaxInt64, 5}, []byte{4, 3, 1, 255, 255, 255, 255, 255, 255, 255, 255, 127, 5}},
	} {
		if b := voteBytes(c.v); !bytes.Equal(b, c.b) {
			t.Errorf("VoteBytes of %v = %v, want %v", c.v, b, c.b)
		}
	}
}

// edges are what each of a vote's numbers is set to alone.
func edges() []int64 {
	return append(badNumbers(), 0, 1, 2, 127, 128, 300, most-1, most)
}

// P11.1: VoteBytes, each of the four at each edge alone; what is answered is nobody else's.
func TestVoteBytesEachAlone(t *testing.T) {
	for _, v := range votes() {
		for i := range v {
			for _, n := range edges() {
				w := v.with(i, n)
				for range 2 {
					b := voteBytes(w)
					if !bytes.Equal(b, w.form()) {
						t.Errorf("VoteBytes of %v = %v, want %v", w, b, w.form())
					}
					scribble(&b)
				}
			}
		}
	}
}

// P11.1: Vote, of unlike keys and votes, and twice the same; what table and ledger have then, told one by one.
func TestVote(t *testing.T) {
	h := newHouse()
	for _, c := range []struct {
		key int
		v   vote
		s   api.Sign
	}{
		{1, vote{3, 2, 3, 9}, sign(1, 1)},
		{1, vote{3, 2, 3, 9}, sign(1, 1)},
		{0, vote{3, 2, 3, 9}, sign(0, 1)},
		{20, vote{3, 2, 3, 9}, sign(20, 1)},
		{1, vote{4, 2, 3, 9}, sign(1, 2)},
		{1, vote{3, 3, 3, 9}, sign(1, 3)},
		{1, vote{3, 2, 4, 9}, sign(1, 4)},
		{1, vote{3, 2, 3, 8}, sign(1, 5)},
		{20, vote{}, sign(20, 6)},
		{13, vote{most, most, most, most}, sign(13, 7)},
		{0, vote{4, 2, 3, 9}, sign(0, 2)},
	} {
		if s, e := h.vote(t, c.key, c.v); s != c.s || e != api.OK {
			t.Errorf("Vote of %d for %v = %v, %d, want %v", c.key, c.v, s, e, c.s)
		}
		h.validVote(t, true, c.s, c.key, c.v)
	}
	if h.x.Len() != 7 || h.l.Len() != 10 {
		t.Errorf("%d texts, %d signatures", h.x.Len(), h.l.Len())
	}
}

// P11.1: Vote of a table that knows the vote already, and a ledger that has its signature.
func TestVoteOfKnown(t *testing.T) {
	v := vote{3, 1, 2, 5}
	h := newHouse([]byte("a"), v.form(), []byte("b"))
	if s, e := h.vote(t, 4, v); s != sign(4, 2) || e != api.OK || h.x.Len() != 3 {
		t.Errorf("Vote: %v, %d, %d texts", s, e, h.x.Len())
	}
	h.sign(sign(5, 2))
	if s, e := h.vote(t, 5, v); s != sign(5, 2) || e != api.OK || h.l.Len() != 2 {
		t.Errorf("Vote: %v, %d, %d signatures", s, e, h.l.Len())
	}
}

// P11.1: each of the four at each edge alone, for Vote and ValidVote, with each key there is.
func TestVoteEachAlone(t *testing.T) {
	for _, v := range votes() {
		h := newHouse()
		for i := range v {
			for j, n := range edges() {
				w, key := v.with(i, n), (i+3*j)%21
				want := api.OK
				if n < 0 || n > 1<<53 {
					want = api.ErrArg
				}
				s, e := h.vote(t, key, w)
				if e != want {
					t.Fatalf("Vote for %v: %d, want %d", w, e, want)
				}
				h.validVote(t, want == api.OK, s, key, w)
			}
		}
	}
}

// P11.1: a vote that may not be is none, though its bytes were asked for and are signed: those of -1 are those of 0.
func TestValidVoteOfNone(t *testing.T) {
	for _, v := range votes() {
		for i := range v {
			for _, n := range badNumbers() {
				h := newHouse()
				w := v.with(i, n)
				h.learn(w.form())
				h.sign(sign(2, 1))
				h.validVote(t, false, sign(2, 1), 2, w)
				if n < 0 {
					h.validVote(t, true, sign(2, 1), 2, v.with(i, 0))
				}
			}
		}
	}
}

// P11.1: the keys that there are, and others: the table learns nothing by these.
func TestVoteKeys(t *testing.T) {
	h := newHouse()
	for key := range 21 {
		v := vote{3, 1, int64(key), 5}
		s, e := h.vote(t, key, v)
		if s.Key != key || e != api.OK {
			t.Errorf("Vote of %d: %v, %d", key, s, e)
		}
		for other := range 21 {
			h.validVote(t, other == key, s, other, v)
		}
	}
	for _, key := range badKeys() {
		v := vote{3, 1, 2, 5}
		if s, e := h.vote(t, key, v); s != (api.Sign{}) || e != api.ErrKey {
			t.Errorf("Vote of %d: %v, %d", key, s, e)
		}
		if s, e := h.vote(t, key, v.with(1, 70)); s != (api.Sign{}) || e != api.ErrKey || h.x.Len() != 21 { // of which the table knows nothing
			t.Errorf("Vote of %d: %v, %d, %d texts", key, s, e, h.x.Len())
		}
		h.validVote(t, false, api.Sign{}, key, v)
		h.validVote(t, false, sign(key, 3), key, v)
		h.validVote(t, false, sign(2, 3), key, v)
	}
}

// P11.1: a table that is full, and one that has room for one more. Of what it knows it gives the number.
func TestVoteFull(t *testing.T) {
	v, w := vote{3, 1, 2, 5}, vote{3, 1, 2, 6}
	h := crowded(0, v.form())
	known := api.Digest(api.MaxSums - mostRoom + 1)
	for _, c := range []struct {
		key int
		v   vote
		s   api.Sign
		e   api.Errno
	}{
		{4, v, sign(4, known), api.OK},
		{4, w, api.Sign{}, api.ErrFull},
		{21, v, api.Sign{}, api.ErrKey},
		{21, w, api.Sign{}, api.ErrFull},
		{4, w.with(0, -1), api.Sign{}, api.ErrArg},
		{21, w.with(3, most+1), api.Sign{}, api.ErrArg},
	} {
		if s, e := h.vote(t, c.key, c.v); s != c.s || e != c.e {
			t.Errorf("Vote of %d for %v = %v, %d, want %v, %d", c.key, c.v, s, e, c.s, c.e)
		}
	}
	h.validVote(t, true, sign(4, known), 4, v)
	h.validVote(t, false, sign(4, known), 4, w)
	h.sign(sign(4, api.MaxSums+1))
	h.validVote(t, false, sign(4, api.MaxSums+1), 4, w)
	h.validVote(t, false, sign(4, 0), 4, w)

	h = crowded(1)
	if s, e := h.vote(t, -1, w); s != (api.Sign{}) || e != api.ErrKey {
		t.Errorf("Vote: %v, %d", s, e)
	}
	if s, e := h.vote(t, 4, w); s != sign(4, api.MaxSums) || e != api.OK {
		t.Errorf("Vote with the last number: %v, %d", s, e)
	}
	if s, e := h.vote(t, 4, v); s != (api.Sign{}) || e != api.ErrFull {
		t.Errorf("Vote behind the last number: %v, %d", s, e)
	}
}

// P11.1: ErrMade is ahead of all else, and nothing is valid.
func TestVoteOfNoCall(t *testing.T) {
	for _, h := range unmade() {
		h.untouched(t, func() {
			for _, v := range []vote{{3, 1, 2, 5}, {}, {-1, 1, 2, 5}, {3, 1, 2, most + 1}} {
				for _, key := range []int{0, 1, 20, 21, -1} {
					if s, e := doVote(h.x, h.l, key, v); s != (api.Sign{}) || e != api.ErrMade {
						t.Errorf("Vote of %d for %v = %v, %d", key, v, s, e)
					}
					for _, s := range []api.Sign{{}, sign(key, 0), sign(key, 1)} {
						if validVote(h.x, h.l, s, key, v) {
							t.Errorf("ValidVote of %d, %v for %v", key, s, v)
						}
					}
				}
			}
		})
	}
	h := newHouse() // a table that knows the vote, a ledger that has it: but one of them alone
	v := vote{3, 1, 2, 5}
	s, _ := h.vote(t, 1, v)
	if validVote(nil, h.l, s, 1, v) || validVote(h.x, nil, s, 1, v) || validVote(nil, nil, s, 1, v) {
		t.Error("ValidVote without table or ledger")
	}
}

// P11.1, P11.5: a vote with another number, key or signature is none, also where the table knows what it says.
func TestValidVoteTurned(t *testing.T) {
	for _, learnt := range []bool{false, true} {
		for _, v := range votes() {
			h := newHouse()
			s, _ := h.vote(t, 2, v)
			h.vote(t, 3, v.with(2, 77)) // another one's vote, for something else
			for i := range v {
				for _, n := range append(edges(), v[i]+1, v[i]-1) {
					w := v.with(i, n)
					if w == v {
						continue
					}
					if learnt && w.may() {
						h.learn(w.form())
					}
					h.validVote(t, false, s, 2, w)
				}
			}
			for _, key := range append(badKeys(), 0, 1, 3, 15, 20) {
				h.validVote(t, false, s, key, v)
				h.validVote(t, false, sign(key, s.Digest), 2, v)
				h.validVote(t, false, sign(key, s.Digest), key, v) // nobody's
			}
			for _, d := range []api.Digest{0, 2, 3, 4, -1, most, most + 1, math.MaxInt64, math.MinInt64} {
				h.validVote(t, false, sign(2, d), 2, v)
			}
			h.validVote(t, false, api.Sign{}, 2, v)
			h.validVote(t, true, s, 2, v)
		}
	}
}

// P11.1: signatures that are noted, but over other bytes, or over a number that no bytes have.
func TestValidVoteOverOthers(t *testing.T) {
	v, w := vote{3, 1, 2, 5}, vote{4, 1, 2, 5}
	h := newHouse(w.form(), v.form())
	h.validVote(t, false, sign(2, 2), 2, v) // known, but signed by nobody
	h.sign(sign(2, 1), sign(2, 3), sign(3, 2))
	for d := range api.Digest(5) {
		h.validVote(t, false, sign(2, d), 2, v)
	}
	h.validVote(t, true, sign(2, 1), 2, w)
	h.validVote(t, true, sign(3, 2), 3, v)
	h.validVote(t, false, sign(3, 2), 2, v)

	n := newHouse() // a table that knows nothing of it
	n.sign(sign(2, 1), sign(2, 2))
	for d := range api.Digest(4) {
		n.validVote(t, false, sign(2, d), 2, v)
	}
	n.learn(v.form())
	n.validVote(t, true, sign(2, 1), 2, v)
}

// P11.6: votes that may be have one number each.
func TestVotesApart(t *testing.T) {
	known := map[string]vote{}
	for _, v := range votes() {
		for i := range v {
			for _, n := range edges() {
				for _, w := range []vote{v.with(i, n), v.with(i, n).with((i+1)%4, n), v.with(i, n).with((i+2)%4, 1)} {
					if !w.may() {
						continue
					}
					b := string(auth.VoteBytes(int(w[0]), w[1], w[2], api.Digest(w[3])))
					if o, is := known[b]; is && o != w {
						t.Errorf("one form of %v and %v", o, w)
					}
					known[b] = w
				}
			}
		}
	}
}
