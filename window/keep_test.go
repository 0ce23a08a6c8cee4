package window_test

import (
	"slices"
	"testing"

	"bulla/api"
	"bulla/request"
	"bulla/window"
)

// scribbleBatch writes to all that the owner of a batch can reach.
func scribbleBatch(l api.Batch) {
	l = l[:cap(l)]
	for i := range l {
		records := l[i].Request.Op.Records
		records = records[:cap(records)]
		for j := range records {
			b := records[j][:cap(records[j])]
			for n := range b {
				b[n]++
			}
			records[j] = api.Record("scribble")
		}
		l[i] = api.Signed{Request: api.Request{Client: 6, Time: 66}}
	}
}

func scribbleVotes(l []api.VoteOf) {
	l = l[:cap(l)]
	for i := range l {
		l[i] = api.VoteOf{Digest: 666, Sign: api.Sign{Key: 66}}
	}
}

func scribbleSlots(l []api.Slot) {
	l = l[:cap(l)]
	for i := range l {
		scribbleBatch(l[i].Batch)
		scribbleVotes(l[i].Prepares)
		scribbleVotes(l[i].Commits)
		l[i] = api.Slot{Seq: 666}
	}
}

// R3: a batch that is accepted is not written to, nor kept in a way that its owner could change.
func TestAcceptKeepsOff(t *testing.T) {
	for _, l := range someBatches() {
		room := slices.Grow(request.Clone(l), 3)
		b := beginBoth(t, clusters()[0], 0)
		b.accept(1, 5, sign(0), l)
		own := start(t, 1, 0)
		own.Accept(1, 5, sign(0), room)
		if !sameBatch(room, l) {
			t.Fatalf("Accept wrote to what was handed in: %+v", room)
		}
		scribbleBatch(room)
		both{t, own, b.m}.same()
		for range 3 {
			own.Prepare(1, 5, sign(1))
			own.Accept(1, 5, sign(0), room)
		}
		s, _ := own.Get(1)
		if !sameBatch(s.Batch, l) {
			t.Errorf("what was written to a batch is seen: %+v", s.Batch)
		}
	}
}

// R3: nothing that is told is kept, nor shared with what else is told.
func TestAnswersWrittenTo(t *testing.T) {
	for _, c := range clusters() {
		b := full(t, c, 4)
		tell := b.w.All()
		for range 2 {
			scribbleSlots(all(b.w))
			b.same()
			scribbleSlots(slices.Collect(tell))
			b.same()
			if !sameSlots(slices.Collect(tell), b.m.all()) {
				t.Fatal("an iterator tells what was written to its slots")
			}
			for seq := int64(5); seq <= 12; seq++ {
				s, _ := b.w.Get(seq)
				again, _ := b.w.Get(seq)
				scribbleSlots([]api.Slot{s})
				if want, _ := b.m.get(seq); !sameSlot(again, want) {
					t.Fatalf("two answers share memory: %+v", again)
				}
				p, _ := b.w.Proof(1, seq)
				again2, is := b.w.Proof(1, seq)
				scribbleBatch(p.Batch)
				for i := range p.Signs[:cap(p.Signs)] {
					p.Signs[:cap(p.Signs)][i].Key = 66
				}
				if want, wantIs := b.m.proof(1, seq); is != wantIs || !sameProof(again2, want) {
					t.Fatalf("two proofs share memory: %+v", again2)
				}
				b.same()
			}
		}
		for k := range c.brokers { // votes that come later have no way into what was written to
			b.prepare(6, 2, sign(k))
			b.commit(6, 2, sign(k))
			b.same()
		}
	}
}

// R3: the lists of one answer do not share memory.
func TestListsApart(t *testing.T) {
	b := full(t, clusters()[0], 4)
	for _, lists := range [][]api.Slot{all(b.w), all(b.w.Clone())} {
		want := b.m.all()
		for i := range lists {
			scribbleVotes(lists[i].Prepares)
			if !slices.Equal(lists[i].Commits, want[i].Commits) {
				t.Fatalf("Prepares and Commits of %d share memory", lists[i].Seq)
			}
			scribbleVotes(lists[i].Commits)
			scribbleBatch(lists[i].Batch)
			for j := i + 1; j < len(lists); j++ {
				if !sameSlot(lists[j], want[j]) {
					t.Fatalf("the slots of %d and %d share memory", lists[i].Seq, lists[j].Seq)
				}
			}
		}
	}
	b.same()
}

// R3: slots are not written to by From, nor by what comes later, nor kept in a way that their owner could change, also where they share memory.
func TestFromKeepsOff(t *testing.T) {
	shared := append(make([]api.VoteOf, 0, 16), votes(5, 0, 1, 3)...)
	batch := request.Clone(someBatches()[5])
	l := make([]api.Slot, 0, 9)
	for seq := int64(1); seq <= 8; seq++ {
		l = append(l, api.Slot{Seq: seq, Has: true, Digest: 5, First: sign(0), Batch: batch, Prepares: shared[:2], Commits: shared})
	}
	first := copySlots(l)
	m := &model{c: clusters()[0]}
	for _, s := range first {
		m.take(said{"accept", s.Seq, s.Digest, s.First, s.Batch})
		for i, v := range s.Commits {
			if i < 2 {
				m.take(said{"prepare", s.Seq, v.Digest, v.Sign, nil})
			}
			m.take(said{"commit", s.Seq, v.Digest, v.Sign, nil})
		}
	}
	w := fromIs(t, clusters()[0], 0, l)
	b := both{t, w, m}
	b.same()
	b.prepare(2, 5, sign(2))
	b.commit(2, 6, sign(2))
	b.slide(1)
	b.same()
	if !sameSlots(l, first) || !slices.Equal(shared[:4], append(votes(5, 0, 1, 3), api.VoteOf{})) {
		t.Errorf("slots that were handed in are written to: %+v", l)
	}
	scribbleSlots(l)
	b.same()
	b.prepare(3, 5, sign(2))
	b.same()
	b.clear()
	b.same()
}

// R3: what a window tells is not its clone's.
func TestClonesApart(t *testing.T) {
	b := full(t, clusters()[0], 4)
	c := both{t, b.w.Clone(), b.m.clone()}
	scribbleSlots(all(b.w))
	scribbleSlots(all(c.w))
	b.same()
	c.same()
	again, e := window.From(1, 4, all(b.w)...)
	if e != 0 {
		t.Fatal(e)
	}
	scribbleSlots(all(again))
	b.same()
	c.same()
	for k := range 4 { // whichever goes ahead, the votes stay the own ones
		d := api.Digest(20 + k)
		b.prepare(6, d, sign(k))
		c.prepare(6, d+10, sign(3-k))
		c.commit(6, d, sign(k))
		b.commit(6, d+10, sign(3-k))
		b.same()
		c.same()
	}
}
