package window_test

import (
	"math"
	"slices"
	"testing"

	"bulla/api"
	"bulla/window"
)

// The chapter's example.
func TestExample(t *testing.T) {
	w := start(t, 1, 0)
	if e := w.Accept(1, 5, sign(0), nil); e != 0 {
		t.Fatal(e)
	}
	for _, k := range []int{1, 2} {
		if w.Prepared(1) {
			t.Fatalf("Prepared ahead of %d", k)
		}
		if e := w.Prepare(1, 5, sign(k)); e != 0 {
			t.Fatal(e)
		}
	}
	for _, k := range []int{0, 1, 2} {
		if !w.Prepared(1) || w.Committed(1) {
			t.Fatalf("ahead of %d: Prepared %v, Committed %v", k, w.Prepared(1), w.Committed(1))
		}
		if e := w.Commit(1, 5, sign(k)); e != 0 {
			t.Fatal(e)
		}
	}
	p, _ := w.Proof(0, 1)
	if e := w.Prepare(1, 6, sign(3)); e != 0 || !w.Committed(1) {
		t.Fatal(e)
	}
	if q, is := w.Proof(0, 1); !is || !sameProof(p, q) {
		t.Errorf("a prepare of another digest counts: %+v, %+v", p, q)
	}
}

// P13.2: Accept of each digest, signature and batch that may be.
func TestAccept(t *testing.T) {
	firsts := []api.Sign{{}, sign(0), sign(3), sign(12), {Key: 13, Digest: 1}, {Key: -1, Digest: -5}, {Key: math.MaxInt, Digest: math.MaxInt64}, {Key: math.MinInt, Digest: math.MinInt64}}
	for _, c := range clusters() {
		for _, d := range someDigests() {
			for _, first := range firsts { // signatures are not asked for
				for _, l := range someBatches() {
					w := start(t, c.f, 0)
					if e := w.Accept(8, d, first, l); e != 0 {
						t.Fatalf("Accept(8, %d, %v, %v) = %d", d, first, l, e)
					}
					if s, is := w.Get(8); !is || !sameSlot(s, api.Slot{Seq: 8, Has: true, Digest: d, First: first, Batch: l}) {
						t.Errorf("Accept(8, %d, %v, %v): %+v, %v", d, first, l, s, is)
					}
				}
			}
		}
	}
}

// P13.2: Accept of what may not be, the errors in their order, and nothing changed.
func TestAcceptWrong(t *testing.T) {
	for _, c := range clusters() {
		b := beginBoth(t, c, 4)
		b.accept(6, 9, sign(1), someBatches()[5])
		b.prepare(7, 9, sign(1))
		wrong := func(seq int64, d api.Digest, l api.Batch, want api.Errno) {
			t.Helper()
			if e := b.accept(seq, d, sign(1), l); e != want {
				t.Errorf("Accept(%d, %d) = %d, want %d", seq, d, e, want)
			}
		}
		for _, x := range append(wrongBatches(), wrongBatch{nil, 1}) {
			for _, seq := range append(extremes(), 3, 4, 13) {
				wrong(seq, 9, x.b, 1)
				wrong(seq, 0, x.b, 1)
			}
			for _, seq := range []int64{5, 6, 7, 12} {
				for _, d := range wrongDigests() {
					wrong(seq, d, x.b, 1)
				}
				if x.b != nil {
					wrong(seq, 9, x.b, x.e) // also where one was accepted already
				}
			}
		}
		b.same()
		for _, d := range someDigests() {
			for _, l := range someBatches() {
				wrong(6, d, l, 5)
			}
		}
		wrong(6, 9, someBatches()[5], 5)
		b.same()
		if s, _ := b.w.Get(6); s.Digest != 9 || !sameBatch(s.Batch, someBatches()[5]) {
			t.Errorf("what was accepted first does not stay: %+v", s)
		}
		wrong(5, 9, nil, 0) // what was refused is in nobody's way
		wrong(7, 9, nil, 0)
		b.same()
	}
}

// eachVote hands Prepare and Commit to try.
func eachVote(try func(kind string, vote func(w *window.Window, seq int64, d api.Digest, s api.Sign) api.Errno)) {
	try("prepare", (*window.Window).Prepare)
	try("commit", (*window.Window).Commit)
}

// votesOf are the votes of one kind that are known of a number.
func votesOf(w *window.Window, kind string, seq int64) []api.VoteOf {
	s, _ := w.Get(seq)
	if kind == "prepare" {
		return s.Prepares
	}
	return s.Commits
}

// P13.2: a vote of each broker, for each digest, whatever its signature is over.
func TestVote(t *testing.T) {
	eachVote(func(kind string, vote func(w *window.Window, seq int64, d api.Digest, s api.Sign) api.Errno) {
		for _, c := range clusters() {
			for k := range c.brokers {
				for _, d := range someDigests() {
					for _, over := range []api.Digest{0, 1, -1, d, 1 << 53, 1<<53 + 1, math.MinInt64, math.MaxInt64} {
						w := start(t, c.f, 0)
						s := api.Sign{Key: k, Digest: over}
						if e := vote(w, 8, d, s); e != 0 {
							t.Errorf("f %d: %s(8, %d, %v) = %d", c.f, kind, d, s, e)
						}
						if l := votesOf(w, kind, 8); !slices.Equal(l, []api.VoteOf{{Digest: d, Sign: s}}) {
							t.Errorf("f %d: %s(8, %d, %v): %v", c.f, kind, d, s, l)
						}
					}
				}
			}
		}
	})
}

// P13.2: votes that may not be, and votes of one broker twice, the errors in their order, and nothing changed.
func TestVoteWrong(t *testing.T) {
	eachVote(func(kind string, vote func(w *window.Window, seq int64, d api.Digest, s api.Sign) api.Errno) {
		for _, c := range clusters() {
			b := full(t, c, 4)
			b.take(said{kind, 6, 9, sign(1), nil})
			wrong := func(seq int64, d api.Digest, k int, want api.Errno) {
				t.Helper()
				if e := vote(b.w, seq, d, sign(k)); e != want {
					t.Errorf("f %d: %s(%d, %d) by %d = %d, want %d", c.f, kind, seq, d, k, e, want)
				}
			}
			for _, seq := range append(extremes(), 3, 4, 13) {
				wrong(seq, 9, 1, 1)
				wrong(seq, 0, -1, 1)
			}
			for _, d := range wrongDigests() {
				for seq := int64(5); seq <= 12; seq++ {
					wrong(seq, d, 1, 1) // also of a broker that has voted
				}
			}
			for _, k := range wrongKeys(c.brokers) {
				for seq := int64(5); seq <= 12; seq++ {
					wrong(seq, 9, k, 1)
				}
			}
			for range 2 {
				for _, d := range someDigests() {
					wrong(6, d, 1, 5)
				}
				wrong(6, 9, 1, 5)
			}
			if e := vote(b.w, 6, 9, api.Sign{Key: 1, Digest: 77}); e != 5 { // the Key alone says whose it is
				t.Errorf("f %d: %s with another signature = %d", c.f, kind, e)
			}
			b.same()
		}
	})
}

// P13.2: the votes of one kind, of one number, of one broker stand in no other's way.
func TestVotesApart(t *testing.T) {
	for _, c := range clusters() {
		b := beginBoth(t, c, 0)
		for seq := int64(1); seq <= 8; seq++ {
			for k := range c.brokers {
				if p, m := b.prepare(seq, api.Digest(k+1), sign(k)), b.commit(seq, api.Digest(k+2), sign(k)); p != 0 || m != 0 {
					t.Fatalf("f %d: broker %d at %d: %d, %d", c.f, k, seq, p, m)
				}
			}
			if e := b.accept(seq, 1, sign(0), nil); e != 0 {
				t.Fatalf("f %d: Accept(%d) = %d", c.f, seq, e)
			}
		}
		b.same()
	}
}

// setUp is a window with so many votes for what is accepted at 3, by the least or the greatest Keys, and all other brokers' votes for another digest.
func setUp(t *testing.T, c cluster, prepares, commits int, last bool, order int) *window.Window {
	t.Helper()
	w := start(t, c.f, 0)
	steps := []func(){
		func() { w.Accept(3, 5, sign(0), nil) },
		func() { cast(w.Prepare, c, prepares, last) },
		func() { cast(w.Commit, c, commits, last) },
	}
	for i := range steps {
		steps[(order+i)%3]()
	}
	return w
}

func cast(vote func(seq int64, d api.Digest, s api.Sign) api.Errno, c cluster, many int, last bool) {
	for k := range c.brokers {
		if last && k >= c.brokers-many || !last && k < many {
			vote(3, 5, sign(k))
		} else {
			vote(3, 6, sign(k))
		}
	}
}

// P13.3: Prepared by 2f, Committed by Big(f) more, whatever came first; of those for another digest none counts.
func TestHowMany(t *testing.T) {
	for _, c := range clusters() {
		for prepares := range c.brokers + 1 {
			for commits := range c.brokers + 1 {
				for order := range 6 {
					w := setUp(t, c, prepares, commits, order < 3, order)
					p, m := prepares >= c.backups, prepares >= c.backups && commits >= c.big
					if w.Prepared(3) != p || w.Committed(3) != m {
						t.Errorf("f %d: %d have prepared, %d committed: %v, %v", c.f, prepares, commits, w.Prepared(3), w.Committed(3))
					}
					if _, is := w.Proof(1, 3); is != p {
						t.Errorf("f %d: %d have prepared: a proof %v", c.f, prepares, is)
					}
				}
			}
		}
	}
}

// P13.3: without one that was accepted nothing is Prepared, however many have voted; nor by votes for another digest than the accepted one.
func TestNotPrepared(t *testing.T) {
	for _, c := range clusters() {
		w := start(t, c.f, 0)
		for k := range c.brokers {
			w.Prepare(3, 6, sign(k))
			w.Commit(3, 6, sign(k))
		}
		no := func() {
			t.Helper()
			if p, is := w.Proof(0, 3); w.Prepared(3) || w.Committed(3) || is || !sameProof(p, api.Prepared{}) {
				t.Errorf("f %d: Prepared %v, Committed %v, %+v", c.f, w.Prepared(3), w.Committed(3), p)
			}
		}
		no()
		if e := w.Accept(3, 5, sign(0), nil); e != 0 {
			t.Fatal(e)
		}
		no()
		if e := w.Accept(4, 6, sign(0), nil); e != 0 || w.Prepared(4) {
			t.Errorf("f %d: the votes for 3 count for 4", c.f)
		}
	}
}

// P13.3: just so many commits do not make Committed what is not Prepared; the last prepare does.
func TestCommittedNeedsPrepared(t *testing.T) {
	for _, c := range clusters() {
		w := start(t, c.f, 0)
		w.Accept(3, 5, sign(0), nil)
		for k := range c.brokers {
			w.Commit(3, 5, sign(k))
		}
		for k := range c.backups {
			if w.Prepared(3) || w.Committed(3) {
				t.Errorf("f %d: %d have prepared: %v, %v", c.f, k, w.Prepared(3), w.Committed(3))
			}
			w.Prepare(3, 5, sign(c.brokers-1-k))
		}
		if !w.Prepared(3) || !w.Committed(3) {
			t.Errorf("f %d: %v, %v", c.f, w.Prepared(3), w.Committed(3))
		}
	}
}

// P13.3: for f 1, each way in which all brokers may prepare and commit one of two digests or none.
func TestEachWay(t *testing.T) {
	for accepted := range 3 {
		for n := range 81 * 81 {
			w := start(t, 1, 0)
			if accepted > 0 && n%2 == 0 {
				w.Accept(2, api.Digest(accepted), sign(0), nil)
			}
			var prepares, commits [3]int
			for k, rest := 0, n; k < 4; k, rest = k+1, rest/9 {
				p, c := rest%9/3, rest%3
				w.Prepare(2, api.Digest(p), sign(k)) // digest 0 is refused
				w.Commit(2, api.Digest(c), sign(k))
				prepares[p]++
				commits[c]++
			}
			if accepted > 0 && n%2 == 1 {
				w.Accept(2, api.Digest(accepted), sign(0), nil)
			}
			p := accepted > 0 && prepares[accepted] >= 2
			c := p && commits[accepted] >= 3
			if w.Prepared(2) != p || w.Committed(2) != c {
				t.Fatalf("accepted %d, way %d: %v, %v, want %v, %v", accepted, n, w.Prepared(2), w.Committed(2), p, c)
			}
		}
	}
}

// P13.3: a proof has all of what was accepted, and of those who have prepared it the 2f least.
func TestProof(t *testing.T) {
	views := []int64{0, 1, 5, 1 << 53, -1, 1<<53 + 1, math.MinInt64, math.MaxInt64}
	for _, c := range clusters() {
		for _, l := range someBatches() {
			for skip := range c.brokers - c.backups + 1 { // so many of the least Keys are for something else, or silent
				w := start(t, c.f, 4)
				w.Accept(12, 5, api.Sign{Key: 40, Digest: 3}, l)
				var least []api.Sign
				for k := c.brokers - 1; k >= 0; k-- {
					if k >= skip {
						w.Prepare(12, 5, sign(k))
						least = slices.Insert(least, 0, sign(k))
					} else if k%2 == 0 {
						w.Prepare(12, 7, sign(k))
					}
				}
				for _, view := range views {
					want := api.Prepared{View: view, Seq: 12, Digest: 5, First: api.Sign{Key: 40, Digest: 3}, Signs: least[:c.backups], Batch: l}
					if p, is := w.Proof(view, 12); !is || !sameProof(p, want) {
						t.Errorf("f %d, %d skipped: Proof(%d, 12) = %+v, %v, want %+v", c.f, skip, view, p, is, want)
					}
				}
			}
		}
	}
}

// P13.3: the Signs of a proof are the least also where others lie between, and where a lesser one comes later.
func TestProofLeast(t *testing.T) {
	w := start(t, 2, 0)
	w.Accept(1, 5, sign(0), nil)
	for _, k := range []int{6, 4, 5, 2} {
		w.Prepare(1, 5, sign(k))
	}
	keys := func() []int {
		p, _ := w.Proof(0, 1)
		var l []int
		for _, s := range p.Signs {
			l = append(l, s.Key)
		}
		return l
	}
	if l := keys(); !slices.Equal(l, []int{2, 4, 5, 6}) {
		t.Error(l)
	}
	w.Prepare(1, 6, sign(0))
	w.Prepare(1, 5, sign(3))
	if l := keys(); !slices.Equal(l, []int{2, 3, 4, 5}) {
		t.Error(l)
	}
	w.Prepare(1, 5, sign(1))
	if l := keys(); !slices.Equal(l, []int{1, 2, 3, 4}) {
		t.Error(l)
	}
}
