package window_test

import (
	"fmt"
	"math/rand"
	"testing"

	"bulla/api"
	"bulla/request"
	"bulla/window"
)

// said is one thing that a window took: what was accepted, a prepare, or a commit.
type said struct {
	kind   string
	seq    int64
	digest api.Digest
	sign   api.Sign
	batch  api.Batch
}

// model is a window told as plainly as can be: as all that it took.
type model struct {
	c    cluster
	low  int64
	said []said
}

func (m *model) in(seq int64) bool {
	for i := int64(1); i <= 8; i++ {
		if m.low+i == seq && seq <= 1<<53 {
			return true
		}
	}
	return false
}

// of are the things of one kind that were said of a number.
func (m *model) of(kind string, seq int64) []said {
	var l []said
	for _, x := range m.said {
		if x.kind == kind && x.seq == seq {
			l = append(l, x)
		}
	}
	return l
}

func (m *model) accept(x said) api.Errno {
	if !m.in(x.seq) || x.digest <= 0 || x.digest > 1<<53 {
		return 1
	}
	if e := request.CheckBatch(x.batch); e != 0 {
		return e
	}
	if len(m.of(x.kind, x.seq)) > 0 {
		return 5
	}
	m.said = append(m.said, x)
	return 0
}

func (m *model) vote(x said) api.Errno {
	if !m.in(x.seq) || x.digest <= 0 || x.digest > 1<<53 || x.sign.Key < 0 || x.sign.Key >= m.c.brokers {
		return 1
	}
	for _, y := range m.of(x.kind, x.seq) {
		if y.sign.Key == x.sign.Key {
			return 5
		}
	}
	m.said = append(m.said, x)
	return 0
}

func (m *model) take(x said) api.Errno {
	if x.kind == "accept" {
		return m.accept(x)
	}
	return m.vote(x)
}

func (m *model) slide(low int64) api.Errno {
	if low < m.low {
		return 7
	}
	if low > 1<<53 {
		return 1
	}
	m.low = low
	var stays []said
	for _, x := range m.said {
		if x.seq > low {
			stays = append(stays, x)
		}
	}
	m.said = stays
	return 0
}

func (m *model) clone() *model {
	return &model{m.c, m.low, append([]said{}, m.said...)}
}

// votes are those of one kind for a number, broker by broker.
func (m *model) votes(kind string, seq int64) []api.VoteOf {
	var l []api.VoteOf
	for k := range m.c.brokers {
		for _, x := range m.of(kind, seq) {
			if x.sign.Key == k {
				l = append(l, api.VoteOf{Digest: x.digest, Sign: x.sign})
			}
		}
	}
	return l
}

func (m *model) get(seq int64) (api.Slot, bool) {
	s := api.Slot{Seq: seq, Prepares: m.votes("prepare", seq), Commits: m.votes("commit", seq)}
	for _, x := range m.of("accept", seq) {
		s.Has, s.Digest, s.First, s.Batch = true, x.digest, x.sign, x.batch
	}
	if !s.Has && len(s.Prepares)+len(s.Commits) == 0 {
		return api.Slot{}, false
	}
	return s, true
}

func (m *model) all() []api.Slot {
	var l []api.Slot
	for i := int64(1); i <= 8; i++ {
		if s, known := m.get(m.low + i); known {
			l = append(l, s)
		}
	}
	return l
}

// most are those of a number's votes that are for what was accepted.
func most(s api.Slot, l []api.VoteOf) []api.Sign {
	var some []api.Sign
	for _, v := range l {
		if s.Has && v.Digest == s.Digest {
			some = append(some, v.Sign)
		}
	}
	return some
}

func (m *model) prepared(seq int64) bool {
	s, _ := m.get(seq)
	return s.Has && len(most(s, s.Prepares)) >= m.c.backups
}

func (m *model) committed(seq int64) bool {
	s, _ := m.get(seq)
	return m.prepared(seq) && len(most(s, s.Commits)) >= m.c.big
}

func (m *model) proof(view, seq int64) (api.Prepared, bool) {
	if !m.prepared(seq) {
		return api.Prepared{}, false
	}
	s, _ := m.get(seq)
	return api.Prepared{View: view, Seq: seq, Digest: s.Digest, First: s.First, Signs: most(s, s.Prepares)[:m.c.backups], Batch: s.Batch}, true
}

// both are a window and its model, which are told the same.
type both struct {
	t *testing.T
	w *window.Window
	m *model
}

func beginBoth(t *testing.T, c cluster, low int64) both {
	t.Helper()
	return both{t, start(t, c.f, low), &model{c: c, low: low}}
}

// tell hands one thing to a window.
func tell(w *window.Window, x said) api.Errno {
	switch x.kind {
	case "accept":
		return w.Accept(x.seq, x.digest, x.sign, x.batch)
	case "prepare":
		return w.Prepare(x.seq, x.digest, x.sign)
	}
	return w.Commit(x.seq, x.digest, x.sign)
}

func (b both) take(x said) api.Errno {
	b.t.Helper()
	e, want := tell(b.w, x), b.m.take(x)
	if e != want {
		b.t.Fatalf("f %d, low %d: %s(%d, %d, %v, %v) = %d, want %d", b.m.c.f, b.m.low, x.kind, x.seq, x.digest, x.sign, x.batch, e, want)
	}
	return e
}

func (b both) accept(seq int64, d api.Digest, first api.Sign, l api.Batch) api.Errno {
	b.t.Helper()
	return b.take(said{"accept", seq, d, first, l})
}

func (b both) prepare(seq int64, d api.Digest, s api.Sign) api.Errno {
	b.t.Helper()
	return b.take(said{"prepare", seq, d, s, nil})
}

func (b both) commit(seq int64, d api.Digest, s api.Sign) api.Errno {
	b.t.Helper()
	return b.take(said{"commit", seq, d, s, nil})
}

func (b both) slide(low int64) api.Errno {
	b.t.Helper()
	e, want := b.w.Slide(low), b.m.slide(low)
	if e != want {
		b.t.Fatalf("low %d: Slide(%d) = %d, want %d", b.m.low, low, e, want)
	}
	return e
}

func (b both) clear() {
	b.w.Clear()
	b.m.said = nil
}

// same tells where a window answers something else than its model.
func (b both) same() {
	b.t.Helper()
	if b.w.Low() != b.m.low {
		b.t.Fatalf("Low() = %d, want %d", b.w.Low(), b.m.low)
	}
	for seq := b.m.low - 1; seq <= b.m.low+10; seq++ {
		b.sameAt(seq)
	}
	for _, seq := range extremes() {
		b.sameAt(seq)
	}
	if l, want := all(b.w), b.m.all(); !sameSlots(l, want) {
		b.t.Fatalf("All tells %+v, want %+v", l, want)
	}
}

func (b both) sameAt(seq int64) {
	b.t.Helper()
	if is, want := b.w.In(seq), b.m.in(seq); is != want {
		b.t.Fatalf("low %d: In(%d) = %v", b.m.low, seq, is)
	}
	if is, want := b.w.Prepared(seq), b.m.prepared(seq); is != want {
		b.t.Fatalf("Prepared(%d) = %v: %+v", seq, is, b.m.said)
	}
	if is, want := b.w.Committed(seq), b.m.committed(seq); is != want {
		b.t.Fatalf("Committed(%d) = %v: %+v", seq, is, b.m.said)
	}
	s, known := b.w.Get(seq)
	if want, wantKnown := b.m.get(seq); !sameSlot(s, want) || known != wantKnown {
		b.t.Fatalf("Get(%d) = %+v, %v, want %+v, %v", seq, s, known, want, wantKnown)
	}
	view := seq%5 + 3
	p, is := b.w.Proof(view, seq)
	if want, wantIs := b.m.proof(view, seq); !sameProof(p, want) || is != wantIs {
		b.t.Fatalf("Proof(%d, %d) = %+v, %v, want %+v, %v", view, seq, p, is, want, wantIs)
	}
}

// anySaid is something to tell, mostly such that it is taken and brings a few numbers far.
func anySaid(dice *rand.Rand, m *model) said {
	x := said{kind: []string{"accept", "prepare", "prepare", "commit", "commit", "commit"}[dice.Intn(6)]}
	x.seq = m.low + 1 + dice.Int63n(3)
	x.digest = api.Digest(1 + dice.Intn(10)/9)
	x.sign = api.Sign{Key: dice.Intn(m.c.brokers), Digest: api.Digest(dice.Intn(50) - 2)}
	if x.kind == "accept" {
		x.sign.Key = dice.Intn(30) - 5
		x.batch = someBatches()[dice.Intn(len(someBatches()))]
	}
	switch dice.Intn(40) {
	case 0:
		_, out := near(m.low)
		x.seq = out[dice.Intn(len(out))]
	case 1:
		x.digest = wrongDigests()[dice.Intn(len(wrongDigests()))]
	case 2:
		x.sign.Key = wrongKeys(m.c.brokers)[dice.Intn(len(wrongKeys(m.c.brokers)))]
	case 3:
		x.kind, x.batch = "accept", wrongBatches()[dice.Intn(len(wrongBatches()))].b
	case 4, 5, 6:
		x.seq = m.low + 1 + dice.Int63n(8)
	case 7:
		x.digest = someDigests()[dice.Intn(len(someDigests()))]
	}
	return x
}

// anyLow is a number to slide to, mostly one that may be.
func anyLow(dice *rand.Rand, m *model) int64 {
	if dice.Intn(4) == 0 {
		_, out := near(m.low)
		return out[dice.Intn(len(out))]
	}
	return min(m.low+dice.Int63n(6), 1<<53)
}

// P13.1 to P13.4, R2: random calls come to what the model comes to, and one that answers an error changes nothing.
func TestModel(t *testing.T) {
	count := map[string]int{}
	for _, c := range clusters() {
		for seed := range int64(20) {
			dice := rand.New(rand.NewSource(seed))
			b := beginBoth(t, c, someLows()[dice.Intn(len(someLows()))])
			for range 60 * c.f {
				var e api.Errno
				kind := "slide"
				switch dice.Intn(30) {
				case 0:
					e = b.slide(anyLow(dice, b.m))
				case 1:
					if dice.Intn(3) == 0 {
						b.clear()
					}
				default:
					x := anySaid(dice, b.m)
					kind, e = x.kind, b.take(x)
				}
				count[fmt.Sprint(kind, " ", e)]++
				b.same()
				for _, s := range all(b.w) {
					count[fmt.Sprint("prepared ", b.w.Prepared(s.Seq), " committed ", b.w.Committed(s.Seq))]++
				}
			}
		}
	}
	for _, what := range []string{
		"accept 0", "accept 1", "accept 3", "accept 5", "accept 80", "prepare 0", "prepare 1", "prepare 5", "commit 0", "commit 1", "commit 5",
		"slide 0", "slide 1", "slide 7", "prepared false committed false", "prepared true committed false", "prepared true committed true",
	} {
		if count[what] < 10 {
			t.Errorf("%s: only %d times", what, count[what])
		}
	}
}

// R6: the same calls answer the same, whatever order the map has.
func TestSameAgain(t *testing.T) {
	run := func() string {
		dice := rand.New(rand.NewSource(13))
		b := beginBoth(t, clusters()[1], 0)
		text := ""
		for range 300 {
			b.take(anySaid(dice, b.m))
			text += fmt.Sprint(all(b.w), all(b.w.Clone()))
		}
		return text
	}
	first := run()
	for range 5 {
		if run() != first {
			t.Fatal("the same calls answered something else")
		}
	}
}
