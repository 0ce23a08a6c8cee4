package prepared_test

import (
	"slices"
	"testing"

	"bulla/api"
	"bulla/prepared"
)

// scribble writes to all that the owner of a certificate can reach.
func scribble(p api.Prepared) {
	signs, batch := p.Signs[:cap(p.Signs)], p.Batch[:cap(p.Batch)]
	for i := range signs {
		signs[i] = api.Sign{Key: 66, Digest: 666}
	}
	for i := range batch {
		records := batch[i].Request.Op.Records
		records = records[:cap(records)]
		for j := range records {
			bytes := records[j][:cap(records[j])]
			for n := range bytes {
				bytes[n]++
			}
			records[j] = api.Record("scribble")
		}
		batch[i] = api.Signed{Request: api.Request{Client: 6, Time: 66}}
	}
}

func scribbleAll(l []api.Prepared) {
	l = l[:cap(l)]
	for i := range l {
		scribble(l[i])
		l[i] = api.Prepared{Seq: 666}
	}
}

// roomy is a certificate whose lists have room behind them.
func roomy(p api.Prepared) api.Prepared {
	p = copyOf(p)
	p.Signs = slices.Grow(p.Signs, 3)
	p.Batch = slices.Grow(p.Batch, 3)
	for i := range p.Batch {
		o := &p.Batch[i].Request.Op
		o.Records = slices.Grow(o.Records, 3)
		for j := range o.Records {
			o.Records[j] = slices.Grow(o.Records[j], 3)
		}
	}
	return p
}

// R3: what is put is not written to, nor kept in a way that its owner could change.
func TestPutKeepsOff(t *testing.T) {
	for n := range 28 {
		b := beginBoth(t)
		p, lesser, same := roomy(some(5, 3, n)), roomy(some(4, 3, n+1)), roomy(some(5, 3, n+2))
		for _, x := range []api.Prepared{p, lesser, same} {
			b.put(x)
			scribble(x) // also what is refused
			b.same()
		}
		b.put(p) // what it is by now
		b.put(some(6, 3, n))
		b.same()
		c := b.clone()
		b.slide(2)
		scribble(p)
		b.same()
		c.same()
	}
}

// R3: nothing that is told is kept, nor shared with what else is told.
func TestAnswersWrittenTo(t *testing.T) {
	b := beginBoth(t)
	for i := range int64(9) {
		b.put(some(i%3, i+1, int(20+i)))
	}
	tell := b.h.All()
	for range 2 {
		for seq := int64(1); seq <= 9; seq++ {
			p, _ := b.h.Get(seq)
			again, _ := b.h.Get(seq)
			scribble(p)
			if want, _ := b.m.get(seq); !same(again, want) {
				t.Fatalf("two answers share memory: %+v", again)
			}
			scribble(again)
			b.same()
		}
		l, want := slices.Collect(tell), b.m.all()
		for i, p := range l {
			scribble(p)
			if !sameAll(l[i+1:], want[i+1:]) {
				t.Fatalf("what All tells shares memory, at %d", i)
			}
		}
		b.same()
		for p := range tell { // while it goes on
			scribble(p)
			b.same()
		}
		if !sameAll(slices.Collect(tell), want) {
			t.Fatal("an iterator tells what was written to what it told")
		}
	}
}

// R3: the lists of one answer do not share memory with each other.
func TestListsApart(t *testing.T) {
	p := some(1, 1, 27)
	b := keeping(t, p)
	for range 2 {
		x, _ := b.h.Get(1)
		for i := range x.Batch {
			for j := range x.Batch[i].Request.Op.Records {
				r := x.Batch[i].Request.Op.Records[j]
				for n := range r[:cap(r)] {
					r[:cap(r)][n] = 'x'
				}
				x.Batch[i].Request.Op.Records[j] = p.Batch[i].Request.Op.Records[j]
				if !same(x, p) {
					t.Fatalf("the records of %d share memory: %+v", i, x)
				}
			}
		}
	}
}

// R3: what is handed to From is not written to, nor kept, also where it shares memory.
func TestFromKeepsOff(t *testing.T) {
	shared := roomy(some(5, 1, 27))
	l := make([]api.Prepared, 0, 9)
	for seq := int64(1); seq <= 6; seq++ {
		p := shared
		p.Seq, p.Signs = seq, shared.Signs[:seq%3]
		l = append(l, p)
	}
	first := copyAll(l)
	b := from(t, true, l...)
	b.put(some(6, 2, 9))
	b.put(some(0, 9, 8))
	b.slide(1)
	if !sameAll(l, first) || !same(shared, some(5, 1, 27)) {
		t.Fatalf("what was handed in is written to: %+v", l)
	}
	scribbleAll(l)
	b.same()
	refused := []api.Prepared{roomy(some(1, 2, 9)), roomy(some(1, 1, 8))}
	from(t, false, refused...)
}

// R3: what a Held tells is not its clone's, nor that of one that was made of it.
func TestClonesApart(t *testing.T) {
	b := beginBoth(t)
	for i := range int64(7) {
		b.put(some(1, i+1, int(20+i)))
	}
	c := b.clone()
	d := from(t, true, slices.Collect(b.h.All())...)
	for _, x := range []both{b, c, d} {
		scribbleAll(slices.Collect(x.h.All()))
		for seq := range int64(9) {
			p, _ := x.h.Get(seq)
			scribble(p)
		}
		b.same()
		c.same()
		d.same()
	}
}

// R3: certificates that are asked about are not kept: what is written to them later changes no answer.
func TestAskedKeepsOff(t *testing.T) {
	h, c := newHouse(), clusters()[0]
	p := h.good(c, 1, 4)
	x := roomy(p)
	if !prepared.Valid(h.x, h.l, 1, x) || !prepared.Above(h.x, h.l, 1, 2, 0, x) || !prepared.Same(x, p) {
		t.Fatal("it is not valid")
	}
	scribble(x)
	h.valid(t, 1, p, true)
	h.valid(t, 1, x, false)
}
