package prepared_test

import (
	"fmt"
	"math/rand"
	"slices"
	"testing"

	"bulla/api"
	"bulla/prepared"
)

// model is what is kept, told as plainly as can be: all in the order in which it came.
type model struct {
	kept []api.Prepared
}

// put answers what Put does, and what happened.
func (m *model) put(p api.Prepared) (bool, string) {
	if p.Seq < 1 || p.Seq > most {
		return false, "refused"
	}
	for i, old := range m.kept {
		switch {
		case old.Seq != p.Seq:
		case old.View == p.View:
			return false, "same view"
		case old.View > p.View:
			return false, "lesser view"
		default:
			m.kept = append(m.kept[:i:i], m.kept[i+1:]...)
			m.kept = append(m.kept, copyOf(p))
			return true, "later view"
		}
	}
	m.kept = append(m.kept, copyOf(p))
	return true, "new"
}

func (m *model) get(seq int64) (api.Prepared, bool) {
	for _, p := range m.kept {
		if p.Seq == seq {
			return p, true
		}
	}
	return api.Prepared{}, false
}

// slide answers how many it lets go.
func (m *model) slide(low int64) int {
	var above []api.Prepared
	for _, p := range m.kept {
		if p.Seq > low {
			above = append(above, p)
		}
	}
	many := len(m.kept) - len(above)
	m.kept = above
	return many
}

// all puts the least one that is left behind the others, again and again.
func (m *model) all() []api.Prepared {
	left := slices.Clone(m.kept)
	var l []api.Prepared
	for len(left) > 0 {
		at := 0
		for i, p := range left {
			if p.Seq < left[at].Seq {
				at = i
			}
		}
		l = append(l, copyOf(left[at]))
		left = append(left[:at], left[at+1:]...)
	}
	return l
}

func (m *model) clone() *model {
	return &model{copyAll(m.kept)}
}

// both are a Held and its model, which are told the same.
type both struct {
	t *testing.T
	h *prepared.Held
	m *model
}

func beginBoth(t *testing.T) both {
	t.Helper()
	h := prepared.New()
	if h == nil {
		t.Fatal("New() is nil")
	}
	return both{t, h, &model{}}
}

// keeping keeps these.
func keeping(t *testing.T, l ...api.Prepared) both {
	t.Helper()
	b := beginBoth(t)
	for _, p := range l {
		b.put(p)
	}
	b.same()
	return b
}

func (b both) clone() both {
	return both{b.t, b.h.Clone(), b.m.clone()}
}

func (b both) put(p api.Prepared) string {
	b.t.Helper()
	first := copyOf(p)
	is := b.h.Put(p)
	want, how := b.m.put(p)
	if is != want {
		b.t.Fatalf("%+v: Put(%+v) = %v", b.m.all(), p, is)
	}
	if !same(p, first) {
		b.t.Fatalf("Put(%+v) has written to it", first)
	}
	return how
}

func (b both) slide(low int64) int {
	b.h.Slide(low)
	return b.m.slide(low)
}

// same tells where a Held answers something else than its model.
func (b both) same() {
	b.t.Helper()
	want := b.m.all()
	if l := slices.Collect(b.h.All()); !sameAll(l, want) {
		b.t.Fatalf("All() tells %+v, want %+v", l, want)
	}
	if n := b.h.Len(); n != len(want) {
		b.t.Fatalf("Len() = %d, want %d", n, len(want))
	}
	seqs := append(someSeqs(), wrongSeqs()...)
	for _, p := range want {
		seqs = append(seqs, p.Seq-1, p.Seq, p.Seq+1)
	}
	for _, seq := range seqs {
		want, wantIs := b.m.get(seq)
		if p, is := b.h.Get(seq); is != wantIs || !same(p, want) || !is && !isZero(p) {
			b.t.Fatalf("%+v: Get(%d) = %+v, %v", b.m.all(), seq, p, is)
		}
	}
}

// step is one thing to tell: a certificate, or how far to slide.
type step struct {
	slides bool
	low    int64
	p      api.Prepared
}

// tell tells it, and what it came to.
func (b both) tell(x step) string {
	b.t.Helper()
	if x.slides {
		return fmt.Sprint("slide past ", min(2, b.slide(x.low)))
	}
	return "put " + b.put(x.p)
}

// anyStep is mostly for one of few numbers and views.
func anyStep(dice *rand.Rand) step {
	p := some(dice.Int63n(6), 1+dice.Int63n(12), dice.Intn(1000))
	switch dice.Intn(24) {
	case 0:
		return step{slides: true, low: dice.Int63n(14)}
	case 1:
		return step{slides: true, low: append(someSeqs(), wrongSeqs()...)[dice.Intn(27)]}
	case 2:
		p.Seq = wrongSeqs()[dice.Intn(len(wrongSeqs()))]
	case 3:
		p.Seq = someSeqs()[dice.Intn(len(someSeqs()))]
	case 4:
		p.View = append(someViews(), wrongViews()...)[dice.Intn(34)]
	}
	return step{p: p}
}

// P15.3, R2: random calls come to what the model comes to, and what is refused changes nothing.
func TestModel(t *testing.T) {
	count := map[string]int{}
	for seed := range int64(150) {
		dice := rand.New(rand.NewSource(seed))
		b := beginBoth(t)
		for range 120 {
			count[b.tell(anyStep(dice))]++
			b.same()
		}
	}
	for _, what := range []string{
		"put refused", "put same view", "put lesser view", "put later view", "put new", "slide past 0", "slide past 1", "slide past 2",
	} {
		enough(t, what, count[what], 20)
	}
}

// R6: the same calls answer the same, whatever order the map has.
func TestSameAgain(t *testing.T) {
	run := func() string {
		dice := rand.New(rand.NewSource(15))
		b := beginBoth(t)
		text := ""
		for range 300 {
			text += b.tell(anyStep(dice)) + fmt.Sprint(slices.Collect(b.h.All()), slices.Collect(b.h.Clone().All()), b.h.Len())
		}
		return text
	}
	first := run()
	for range 5 {
		if run() != first {
			t.Fatal("the same calls answered something else")
		}
	}
}
