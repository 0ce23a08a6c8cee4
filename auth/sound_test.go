package auth_test

import (
	"math/rand"
	"slices"
	"strconv"
	"testing"

	"bulla/api"
	"bulla/auth"
	"bulla/ideal"
)

// anyMsg is a message of few numbers, by chance, so that often two say the same.
func anyMsg(dice *rand.Rand) api.Msg {
	from, view, seq := dice.Intn(3), 1+dice.Int63n(2), 1+dice.Int63n(2)
	c := api.Change{View: view, From: from, Sign: sign(dice.Intn(3), 1)}
	if dice.Intn(2) == 0 {
		c.Above = []api.Prepared{{Seq: seq, Digest: 1, First: sign(1, 1)}}
	}
	switch kind := 1 + dice.Intn(12); kind {
	case 2:
		return api.Msg{Kind: 2, From: from, View: view, Seq: seq, Digest: 1, Batch: batch(dice.Intn(3))}
	case 3, 4:
		return api.Msg{Kind: kind, From: from, View: view, Seq: seq, Digest: 1}
	case 5:
		return api.Msg{Kind: 5, From: from, View: view, Client: 1, Time: seq, Result: api.Result{Err: 1, Offset: dice.Int63n(2)}}
	case 6:
		return api.Msg{Kind: 6, From: from, Seq: seq, Digest: 1}
	case 7:
		return api.Msg{Kind: 7, From: from, View: view, Changes: []api.Change{c}}
	case 8:
		return api.Msg{Kind: 8, From: from, View: view, Changes: []api.Change{c}}
	case 9:
		return api.Msg{Kind: 9, From: from, Seq: seq}
	default:
		return ordinary()[kind-1]
	}
}

// P11.5, P11.7: in many runs, what was sealed stays valid, whatever is sealed, voted, asked for behind it; what is valid was signed; looking changes nothing.
func TestStaysValid(t *testing.T) {
	for run := range 20 {
		dice := rand.New(rand.NewSource(int64(run)))
		h := newHouse()
		var sealed []api.Msg
		var entries []api.Entry
		var keys []int
		for range 120 {
			switch dice.Intn(6) {
			case 0, 1:
				sealed = append(sealed, h.sealed(t, anyMsg(dice)))
			case 2:
				key := dice.Intn(4)
				if y, e := h.entry(t, key, entry(dice.Int63n(3)-1, dice.Int63n(3), batch(dice.Intn(3)))); e == api.OK {
					entries, keys = append(entries, y), append(keys, key)
				}
			case 3:
				h.vote(t, dice.Intn(25)-2, vote{dice.Int63n(5), dice.Int63n(3), dice.Int63n(4) - 1, dice.Int63n(3)})
			case 4:
				h.learn([]byte{byte(dice.Intn(256))})
			case 5: // a message that somebody may never have sealed
				m := anyMsg(dice)
				if p := signOf(&m); p != nil {
					*p = sign(dice.Intn(3), api.Digest(1+dice.Intn(h.x.Len()+1)))
				}
				h.valid(t, h.m.valid(m), m)
			}
		}
		for _, m := range sealed {
			h.valid(t, true, m)
		}
		for i, y := range entries {
			h.validEntry(t, true, keys[i], y)
		}
	}
}

// P11.6: of all that was sealed, what has one signature says the same.
func TestOneMeaning(t *testing.T) {
	dice := rand.New(rand.NewSource(3))
	h := newHouse()
	known := map[api.Sign]api.Msg{}
	again := map[int]int{}
	for range 3000 {
		m := h.sealed(t, anyMsg(dice))
		p := signOf(&m)
		if p == nil {
			continue
		}
		o, is := known[*p]
		if is && (o.From != m.From || !same(saying(o), saying(m))) {
			t.Fatalf("%v is the signature of %+v and %+v", *p, o, m)
		}
		if is {
			again[m.Kind]++
		}
		known[*p] = m
	}
	if len(again) != 8 {
		t.Errorf("Kinds that were signed alike: %v", again)
	}
}

// P11.6: two pre-prepares that differ in what is not signed have one signature; each is valid with it.
func TestSignedAlike(t *testing.T) {
	h := newHouse()
	m := api.Msg{Kind: api.MsPrePrepare, From: 2, View: 6, Seq: 3, Digest: 4, Batch: batch(1)}
	a := h.sealed(t, m)
	m.Batch = batch(2)
	b := h.sealed(t, m)
	if a.Sign != b.Sign || same(a, b) || h.l.Len() != 1 {
		t.Errorf("%+v, %+v", a, b)
	}
	m.Sign = a.Sign
	h.valid(t, true, m)
	m.Kind, m.Batch = api.MsPrepare, nil
	if c := h.sealed(t, m); c.Sign == a.Sign {
		t.Errorf("signed as another Kind is: %+v", c)
	}
	h.valid(t, false, m)
}

// R6: the same calls answer the same.
func TestSameAgain(t *testing.T) {
	for _, m := range samples() {
		a, b := newHouse([]byte("a")), newHouse([]byte("a"))
		for range 3 {
			x, y := a.sealed(t, m), b.sealed(t, normal(m))
			if !same(x, y) {
				t.Errorf("another answer the second time: %+v, %+v", x, y)
			}
		}
	}
}

// THE BOUND: nothing that a table or a ledger holds is copied or gone through.
func TestNearLinear(t *testing.T) {
	x, l := ideal.NewTable(), ideal.NewLedger()
	for i := range 1 << 16 {
		x.Sum([]byte("filler " + strconv.Itoa(i)))
		l.Sign(i%api.MaxKeys, api.Digest(1+i))
	}
	m := ordinary()[7]
	h := house{x: x, l: l}
	all := func() {
		s, _ := auth.Seal(x, l, m)
		y, _ := auth.Entry(x, l, 2, entry(6, 3, batch(4)))
		z, _ := doVote(x, l, 3, votes()[0])
		if !auth.Valid(x, l, s) || !auth.ValidEntry(x, l, 2, y) || !validVote(x, l, z, 3, votes()[0]) {
			t.Fatal("not valid")
		}
	}
	all() // room for what comes
	h.untouched(t, func() {
		if n := allocated(func() {
			for range 100 {
				all()
			}
		}); n > 1<<23 {
			t.Errorf("%d bytes of memory", n)
		}
	})
}

// THE BOUND: lists that are long beyond what may be are refused ahead of going through them.
func TestNearLinearInLists(t *testing.T) {
	long := api.Msg{Kind: 2, Seq: 1, Digest: 1, Batch: slices.Repeat(batch(1), 1<<16)}
	x, l := ideal.NewTable(), ideal.NewLedger()
	if n := allocated(func() {
		for range 100 {
			if _, e := auth.Seal(x, l, long); e != api.ErrLong {
				t.Fatal(e)
			}
			if _, e := auth.Entry(x, l, 1, api.Entry{Batch: long.Batch}); e != api.ErrLong || auth.ValidEntry(x, l, 1, api.Entry{Batch: long.Batch}) || auth.Valid(x, l, long) {
				t.Fatal(e)
			}
		}
	}); n > 1<<20 {
		t.Errorf("%d bytes of memory", n)
	}
}
