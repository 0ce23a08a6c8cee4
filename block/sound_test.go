package block_test

import (
	"bytes"
	"math/rand"
	"slices"
	"testing"

	"bulla/api"
	"bulla/block"
	"bulla/request"
	"bulla/topics"
)

// past is a header, with the batch that it stands for and the past that it stands on.
type past struct {
	h     api.Header
	b     api.Batch
	u     *topics.Topics // behind it
	ahead *past
}

// line is the headers from genesis to p.
func (p *past) line() []api.Header {
	var l []api.Header
	for ; p != nil; p = p.ahead {
		l = append(l, p.h)
	}
	slices.Reverse(l)
	return l
}

// samePast tells whether two have the same headers and the same batches, all the way down.
func samePast(a, b *past) bool {
	for a != nil && b != nil {
		if a.h != b.h || !request.Same(a.b, b.b) {
			return false
		}
		a, b = a.ahead, b.ahead
	}
	return a == b
}

// forks are pasts that part and part again, over one table: behind any of them any of some batches.
func forks(t *testing.T, n int) (pair, []*past) {
	t.Helper()
	dice := rand.New(rand.NewSource(5))
	p, u, g := begun(t)
	l := []*past{{h: g, u: u}}
	var some []api.Batch
	for now := range int64(6) {
		some = append(some, anyBatch(dice, now+1))
	}
	some = append(some, nil, api.Batch{ask(0, 1, create("t"))}, api.Batch{ask(1, 1, create("t"))}, api.Batch{ask(0, 1, create("t")), ask(1, 1, publish("t", ""))})
	for len(l) < n {
		on := l[dice.Intn(len(l))]
		b, u := some[dice.Intn(len(some))], on.u.Clone()
		c := p.run(t, u, on.h, b)
		if c.e != api.OK {
			t.Fatalf("%+v", c)
		}
		l = append(l, &past{c.h, b, u, on})
	}
	return p, l
}

// P9.5: who has the same header has the same headers and batches ahead of it, from genesis on; who has another batch or another past, another header.
func TestOnePast(t *testing.T) {
	p, l := forks(t, 400)
	again := 0
	for i, a := range l {
		for _, b := range l[:i] {
			same := samePast(a, b)
			if (a.h == b.h) != same {
				t.Fatalf("%+v and %+v: of the same past %v", a.line(), b.line(), same)
			}
			d, _ := block.Digest(p.x, a.h)
			f, _ := block.Digest(p.x, b.h)
			if (d == f) != same {
				t.Fatalf("Digests %d and %d: of the same past %v", d, f, same)
			}
			if same {
				again++
			}
		}
	}
	if again < 20 {
		t.Errorf("only %d were the same", again)
	}
}

// P9.5: whatever Chain takes that ends in a header, of headers that were executed and others that the table knows, is that header's past as far as it goes.
func TestChainsOfOneEnd(t *testing.T) {
	p, l := forks(t, 30)
	dice := rand.New(rand.NewSource(6))
	var from []api.Header
	for _, a := range l {
		from = append(from, a.h)
		for range 3 { // with one number of another one's
			h := a.h
			field := dice.Intn(5)
			changes()[field](&h, numbersOf(l[dice.Intn(len(l))].h)[field])
			from = append(from, h)
		}
		h := a.h // with another one for its past
		h.Prev = p.learn(form(from[dice.Intn(len(from))]))
		from = append(from, h)
	}
	for _, h := range from {
		p.learn(form(h))
	}
	ends := map[api.Header][]api.Header{} // the longest chain that ends there
	count := 0
	var down func(c []api.Header)
	down = func(c []api.Header) {
		if !block.Chain(p.x, c...) {
			return
		}
		count++
		end := c[len(c)-1]
		known := ends[end]
		n := min(len(known), len(c))
		if !slices.Equal(known[len(known)-n:], c[len(c)-n:]) {
			t.Fatalf("two chains with one end: %+v, %+v", known, c)
		}
		if len(c) > len(known) {
			ends[end] = slices.Clone(c)
		}
		for _, h := range from {
			down(append(c, h))
		}
	}
	for _, h := range from {
		down([]api.Header{h})
	}
	for _, a := range l {
		if line := a.line(); !slices.Equal(ends[a.h], line) {
			t.Errorf("the longest chain to %+v is %+v, want %+v", a.h, ends[a.h], line)
		}
	}
	if count < 500 {
		t.Errorf("only %d chains", count)
	}
	p.same(t)
}

// P9.6: the same batches over the same topics with one table leave the same, and the table learns nothing by the second time; with another table that knows the same, too.
func TestSameAgain(t *testing.T) {
	dice := rand.New(rand.NewSource(4))
	for range 30 {
		p, u, last := begun(t)
		q, v := p.clone(), u.Clone()
		var all []api.Batch
		var first []came
		for now := range int64(12) {
			b := anyBatch(dice, now+1)
			c := p.run(t, u, last, b)
			all, first, last = append(all, b), append(first, c), c.h
		}
		had := p.x.Len()
		for _, at := range []pair{p, q} {
			w, last := v.Clone(), api.Header{Root: 1, State: 2}
			for i, b := range all {
				c := at.run(t, w, last, request.Clone(b))
				if !sameCame(c, first[i]) {
					t.Fatalf("batch %d: %+v, at first %+v", i, c, first[i])
				}
				last = c.h
			}
			if !bytes.Equal(w.Bytes(), u.Bytes()) || at.x.Len() != had {
				t.Errorf("%v, %v; %d texts, at first %d", w.Bytes(), u.Bytes(), at.x.Len(), had)
			}
		}
	}
}

// P9.3: a header says what its block holds: Batch, Root and State are the table's numbers of these, and Prev that of the one ahead.
func TestHeaderSays(t *testing.T) {
	p, u, last := begun(t)
	for _, b := range batches() {
		c := p.run(t, u, last, b)
		for _, x := range []struct {
			d    api.Digest
			text []byte
		}{{c.h.Batch, request.PutBatch(nil, b)}, {c.h.Prev, form(last)}, {c.h.State, u.Bytes()}} {
			if text, _ := p.x.Open(x.d); !bytes.Equal(text, x.text) {
				t.Errorf("%d is %v, want %v", x.d, text, x.text)
			}
		}
		if d := p.m.root(block.Leaves(c.placed...)...); d != c.h.Root {
			t.Errorf("the root is %d, want %d", c.h.Root, d)
		}
		last = c.h
	}
	p.same(t)
}
