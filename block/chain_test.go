package block_test

import (
	"slices"
	"testing"

	"bulla/api"
	"bulla/block"
	"bulla/ideal"
	"bulla/topics"
)

// executed is a table in which all batches were executed, one behind the other, and the headers from genesis on.
func executed(t *testing.T) (pair, []api.Header) {
	t.Helper()
	p, u, g := begun(t)
	l := []api.Header{g}
	for _, b := range batches() {
		c := p.run(t, u, l[len(l)-1], b)
		if c.e != api.OK {
			t.Fatalf("%+v", c)
		}
		l = append(l, c.h)
	}
	return p, l
}

// chain tells where Chain does not say so, or teaches the table, or writes to the headers.
func (p pair) chain(t *testing.T, want bool, l ...api.Header) {
	t.Helper()
	first := slices.Clone(l)
	if got := block.Chain(p.x, l...); got != want {
		t.Errorf("Chain(%+v) = %v", l, got)
	}
	if !slices.Equal(l, first) {
		t.Errorf("Chain wrote to %+v", first)
	}
	p.same(t)
}

// P9.4: Chain, of all headers one behind the other that were executed, and of none.
func TestChain(t *testing.T) {
	p, l := executed(t)
	for from := range l {
		for to := from; to < len(l); to++ { // the digest of the last one of all nobody has asked for
			p.chain(t, true, l[from:to]...)
		}
		p.chain(t, true, l[from:]...)
	}
	p.chain(t, true)
	table().chain(t, true)
	table([]byte("a")).chain(t, true)
	if !block.Chain(p.x, []api.Header{}...) {
		t.Error("Chain of none")
	}
}

// P9.4: Chain of one header: of one that may be, whether the table knows it or not.
func TestChainOfOne(t *testing.T) {
	p := table()
	for i, h := range goodHeaders() {
		if i%7 == 0 {
			p.learn(form(h))
		}
		if !block.Chain(p.x, h) {
			t.Errorf("Chain(%+v)", h)
		}
	}
	for _, h := range badHeaders() {
		if block.Chain(p.x, h) {
			t.Errorf("Chain(%+v)", h)
		}
	}
	p.same(t)
}

// P9.4: headers that are left out, that stand twice, that stand in another order.
func TestChainOfOthers(t *testing.T) {
	p, l := executed(t)
	for i, h := range l {
		for j, k := range l {
			p.chain(t, j == i+1, h, k)
			if i > 0 {
				p.chain(t, j == i+1, l[i-1], h, k)
			}
		}
		if i > 0 && i+1 < len(l) {
			p.chain(t, false, slices.Delete(slices.Clone(l), i, i+1)...)
		}
		p.chain(t, false, slices.Insert(slices.Clone(l), i, h)...)
	}
	back := slices.Clone(l)
	slices.Reverse(back)
	p.chain(t, false, back...)
}

// P9.4: headers of which one number is another one, that may be, in each place; also where the table knows what stands there then.
func TestChainChanged(t *testing.T) {
	for _, learnt := range []bool{false, true} {
		p, l := executed(t)
		l = l[:5]
		for i, h := range l {
			for field, change := range changes() {
				for _, n := range append(goodNumbers(), numbersOf(h)[field]+1) {
					c := slices.Clone(l)
					change(&c[i], n)
					if c[i] == h {
						continue
					}
					if learnt {
						p.learn(form(c[i]))
					}
					fits := i == 0 || field > 1 // Seq and Prev are held against the header ahead
					p.chain(t, i == 4 && fits, c...)
					p.chain(t, fits, c[:i+1]...)
					if i < 4 {
						p.chain(t, false, c[i:i+2]...)
					}
				}
			}
		}
	}
}

// P9.4: one that may not be, in each place of chains of each length, though all else fits.
func TestChainOfBad(t *testing.T) {
	p, l := executed(t)
	for i := range l {
		for _, change := range changes() {
			for _, n := range badNumbers() {
				c := slices.Clone(l)
				change(&c[i], n)
				p.chain(t, false, c...)
				p.chain(t, false, c[:i+1]...)
				p.chain(t, false, c[i:]...)
				p.chain(t, false, c[max(i-1, 0):i+1]...)
			}
		}
	}
}

// P9.4: the greatest Seq, and the one behind it, which may not be.
func TestChainToTheEnd(t *testing.T) {
	h := api.Header{Seq: maxNum - 1, State: 7}
	k := api.Header{Seq: maxNum, Prev: 1}
	p := table(form(h), form(k))
	p.chain(t, true, h, k)
	p.chain(t, false, h, k, api.Header{Seq: maxNum + 1, Prev: 2})
	p.chain(t, false, k, api.Header{Seq: maxNum + 1, Prev: 2})
	p.chain(t, false, k, api.Header{Seq: 0, Prev: 2})
	p.chain(t, false, k, api.Header{Seq: maxNum, Prev: 2})
}

// P9.4: a digest that the table does not know is none, also not 0.
func TestChainOfUnknown(t *testing.T) {
	h, k := api.Header{Seq: 3, Root: 4}, api.Header{Seq: 4}
	l := []pair{table(), table([]byte("a")), table(form(api.Header{Seq: 3})), crowded(0), crowded(1)}
	for _, p := range l {
		for n := range api.Digest(4) {
			k.Prev = n
			p.chain(t, false, h, k)
		}
	}
	for i, p := range []pair{table(form(h)), table([]byte("a"), form(h)), table([]byte("a"), []byte("b"), form(h), []byte("c"))} {
		for n := range api.Digest(6) {
			k.Prev = n
			p.chain(t, n == api.Digest(i+1), h, k)
		}
	}
}

// P9.4: a chain of one table is none in another one, which knows nothing of it, or knows it by other numbers.
func TestChainElsewhere(t *testing.T) {
	p, l := executed(t)
	table().chain(t, false, l...)
	q := table([]byte("a"))
	q.learn(p.x.Plain()...)
	q.chain(t, false, l...)
	for _, h := range l {
		q.chain(t, true, h)
	}
	part := table(p.x.Plain()[:12]...) // as far as it knows
	part.chain(t, true, l[:2]...)
	part.chain(t, false, l...)
}

// P9.4: over a full table.
func TestChainFull(t *testing.T) {
	p, u := crowded(mostRoom), topics.New()
	l := []api.Header{{}}
	for _, b := range batches() {
		c := p.run(t, u, l[len(l)-1], b)
		if c.e != api.OK {
			break
		}
		l = append(l, c.h)
	}
	if p.x.Len() != api.MaxSums || len(l) < 4 {
		t.Fatalf("%d texts, %d headers", p.x.Len(), len(l))
	}
	p.chain(t, true, l...)
	p.chain(t, false, append(l, api.Header{Seq: int64(len(l))})...)
}

// P9.4, R5: of a table that no call made no headers are a chain, also none, one, and such as hang on a digest of 0.
func TestChainOfNoCall(t *testing.T) {
	_, l := executed(t)
	for _, x := range tablesOfNoCall() {
		for n := range l {
			if block.Chain(x, l[:n]...) {
				t.Errorf("Chain of %d", n)
			}
		}
		if block.Chain(x, nil...) || block.Chain(x, api.Header{}) || block.Chain(x, api.Header{}, api.Header{Seq: 1}) || block.Chain(x, api.Header{Seq: -1}) || x.Len() != 0 {
			t.Error("Chain of a table that no call made")
		}
	}
}

// THE BOUND: very long chains, over a table that holds much.
func TestChainNearLinear(t *testing.T) {
	x, u := ideal.NewTable(), topics.New()
	l := []api.Header{{}}
	for i := range 1 << 14 {
		c := execute(x, u, l[i], nil)
		if c.e != api.OK {
			t.Fatalf("%+v", c)
		}
		l = append(l, c.h)
	}
	if m := allocated(func() {
		if !block.Chain(x, l...) {
			t.Error("Chain")
		}
	}); m > 1<<24 {
		t.Errorf("%d bytes of memory", m)
	}
}
