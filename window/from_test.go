package window_test

import (
	"math"
	"math/rand"
	"slices"
	"testing"

	"bulla/api"
	"bulla/window"
)

// goesThrough tells whether All of some window tells l, by telling all of l to a model one by one.
func goesThrough(c cluster, low int64, l []api.Slot) bool {
	m := &model{c: c, low: low}
	for _, s := range l {
		if s.Has {
			m.take(said{"accept", s.Seq, s.Digest, s.First, s.Batch})
		}
		for _, v := range s.Prepares {
			m.take(said{"prepare", s.Seq, v.Digest, v.Sign, nil})
		}
		for _, v := range s.Commits {
			m.take(said{"commit", s.Seq, v.Digest, v.Sign, nil})
		}
	}
	return sameSlots(m.all(), l)
}

// fromIs tells where From does not take just what All may go through; it answers what From has made.
func fromIs(t *testing.T, c cluster, low int64, l []api.Slot) *window.Window {
	t.Helper()
	may := goesThrough(c, low, l)
	w, e := window.From(c.f, low, l...)
	if !may {
		if w != nil || e != 1 {
			t.Fatalf("From(%d, %d, %+v) = %v, %d, want ErrArg", c.f, low, l, w, e)
		}
		return nil
	}
	if w == nil || e != 0 || w.Low() != low || !sameSlots(all(w), l) {
		t.Fatalf("From(%d, %d, %+v) = %v, %d", c.f, low, l, w, e)
	}
	return w
}

// okay and wrong hold From against what a test says itself, beside the model's word.
func okay(t *testing.T, c cluster, low int64, l ...api.Slot) {
	t.Helper()
	if fromIs(t, c, low, l) == nil {
		t.Errorf("From(%d, %d, %+v) is refused", c.f, low, l)
	}
}

func wrong(t *testing.T, c cluster, low int64, l ...api.Slot) {
	t.Helper()
	if fromIs(t, c, low, l) != nil {
		t.Errorf("From(%d, %d, %+v) is taken", c.f, low, l)
	}
}

// P13.4: New's errors come first, whatever the list is.
func TestFromAsNew(t *testing.T) {
	good, bad := api.Slot{Seq: 1, Prepares: votes(5, 1)}, api.Slot{Seq: -1}
	for _, l := range [][]api.Slot{nil, {}, {good}, {bad}, {bad, good, bad}} {
		is := func(f int, low int64, want api.Errno) {
			t.Helper()
			if w, e := window.From(f, low, l...); w != nil || e != want {
				t.Errorf("From(%d, %d, %+v) = %v, %d, want %d", f, low, l, w, e, want)
			}
		}
		for _, f := range wrongFaults() {
			is(f, 0, 120)
			for _, low := range wrongLows() {
				is(f, low, 120)
			}
		}
		for _, c := range clusters() {
			for _, low := range wrongLows() {
				is(c.f, low, 1)
			}
		}
	}
	for _, c := range clusters() {
		for _, low := range someLows() {
			okay(t, c, low)
			wrong(t, c, low, bad)
		}
	}
}

// P13.4: numbers that are in the window, rising.
func TestFromNumbers(t *testing.T) {
	slots := func(l ...int64) []api.Slot {
		var s []api.Slot
		for _, seq := range l {
			s = append(s, api.Slot{Seq: seq, Commits: votes(5, 0)})
		}
		return s
	}
	for _, c := range clusters() {
		for _, low := range someLows() {
			in, out := near(low)
			okay(t, c, low, slots(in...)...)
			for _, seq := range in {
				okay(t, c, low, slots(seq)...)
				wrong(t, c, low, slots(seq, seq)...)
				wrong(t, c, low, slots(append(slices.Clone(in), seq)...)...)
			}
			for _, seq := range out {
				wrong(t, c, low, slots(seq)...)
				wrong(t, c, low, slots(append([]int64{seq}, in...)...)...)
				wrong(t, c, low, slots(append(slices.Clone(in), seq)...)...)
			}
		}
		okay(t, c, 4, slots(5, 7, 12)...)
		wrong(t, c, 4, slots(7, 5, 12)...)
		wrong(t, c, 4, slots(5, 12, 7)...)
		wrong(t, c, 4, slots(12, 11)...)
		wrong(t, c, 4, slots(5, 7, 7)...)
		wrong(t, c, 4, slots(5, 6, 5)...)
	}
}

// P13.4: something is known of each number.
func TestFromNothingKnown(t *testing.T) {
	c := clusters()[0]
	wrong(t, c, 0, api.Slot{})
	wrong(t, c, 0, api.Slot{Seq: 1})
	wrong(t, c, 0, api.Slot{Seq: 1, Prepares: []api.VoteOf{}, Commits: []api.VoteOf{}, Batch: api.Batch{}})
	wrong(t, c, 0, api.Slot{Seq: 1, Commits: votes(5, 0)}, api.Slot{Seq: 2})
	wrong(t, c, 0, api.Slot{Seq: 1}, api.Slot{Seq: 2, Commits: votes(5, 0)})
	okay(t, c, 0, api.Slot{Seq: 1, Prepares: votes(5, 0)})
	okay(t, c, 0, api.Slot{Seq: 1, Commits: votes(5, 0), Batch: api.Batch{}, Prepares: []api.VoteOf{}})
	okay(t, c, 0, api.Slot{Seq: 1, Has: true, Digest: 5})
}

// P13.4: what was accepted is such as Accept takes.
func TestFromAccepted(t *testing.T) {
	for _, c := range clusters() {
		for _, l := range someBatches() {
			for _, d := range someDigests() {
				okay(t, c, 0, api.Slot{Seq: 1, Has: true, Digest: d, First: sign(1), Batch: l})
				okay(t, c, 0, api.Slot{Seq: 1, Has: true, Digest: d, First: api.Sign{Key: -9, Digest: -9}, Batch: l})
				okay(t, c, 0, api.Slot{Seq: 1, Has: true, Digest: d, First: api.Sign{Key: math.MaxInt, Digest: math.MaxInt64}, Batch: l})
			}
			for _, d := range wrongDigests() {
				wrong(t, c, 0, api.Slot{Seq: 1, Has: true, Digest: d, First: sign(1), Batch: l})
				wrong(t, c, 0, api.Slot{Seq: 1, Has: true, Digest: d, First: sign(1), Batch: l, Prepares: votes(5, 0)})
			}
		}
		for _, x := range wrongBatches() {
			wrong(t, c, 0, api.Slot{Seq: 1, Has: true, Digest: 5, Batch: x.b})
			wrong(t, c, 0, api.Slot{Seq: 1, Has: true, Digest: 5}, api.Slot{Seq: 8, Has: true, Digest: 5, Batch: x.b})
		}
	}
}

// P13.4: where nothing was accepted, Digest, First and Batch are zero.
func TestFromNothingAccepted(t *testing.T) {
	for _, c := range clusters() {
		voted := api.Slot{Seq: 1, Prepares: votes(5, 0, 1), Commits: votes(6, 2)}
		okay(t, c, 0, voted)
		for _, d := range []api.Digest{1, 5, -1, 1 << 53} {
			s := voted
			s.Digest = d
			wrong(t, c, 0, s)
			wrong(t, c, 0, api.Slot{Seq: 1, Digest: d})
		}
		for _, first := range []api.Sign{{Key: 1}, {Digest: 1}, {Key: -1}, sign(0)} {
			s := voted
			s.First = first
			wrong(t, c, 0, s)
		}
		for _, l := range someBatches() {
			s := voted
			s.Batch = l
			if len(l) == 0 {
				okay(t, c, 0, s)
			} else {
				wrong(t, c, 0, s)
			}
		}
		for _, x := range wrongBatches() {
			s := voted
			s.Batch = x.b
			wrong(t, c, 0, s)
		}
	}
}

// P13.4: votes rise by Keys, and each is such as Prepare or Commit takes.
func TestFromVotes(t *testing.T) {
	for _, c := range clusters() {
		each := func(l []api.VoteOf, try func(t *testing.T, c cluster, low int64, l ...api.Slot)) {
			t.Helper()
			try(t, c, 0, api.Slot{Seq: 1, Prepares: l})
			try(t, c, 0, api.Slot{Seq: 1, Commits: l})
			try(t, c, 0, api.Slot{Seq: 8, Has: true, Digest: 5, Prepares: l, Commits: votes(5, 0, 1)})
			try(t, c, 0, api.Slot{Seq: 8, Has: true, Digest: 5, Prepares: votes(5, 1, 2), Commits: l})
		}
		last := c.brokers - 1
		each(votes(5, upTo(c.brokers)...), okay)
		each(votes(5, 0, last), okay)
		each(append(votes(5, 0, 1), votes(6, 2, last)...), okay)
		each([]api.VoteOf{{Digest: 1}, {Digest: 1 << 53, Sign: api.Sign{Key: last, Digest: -7}}}, okay)
		each(votes(5, upTo(c.brokers+1)...), wrong)
		each(votes(5, 1, 0), wrong)
		each(votes(5, last, 0), wrong)
		each(votes(5, 0, 2, 1), wrong)
		each(votes(5, 0, 0), wrong)
		each(votes(5, 0, last, last), wrong)
		each(append(votes(5, 0, 1), votes(6, 1)...), wrong)
		each([]api.VoteOf{{Digest: 5, Sign: api.Sign{Key: 1, Digest: 1}}, {Digest: 5, Sign: api.Sign{Key: 1, Digest: 2}}}, wrong)
		for _, k := range wrongKeys(c.brokers) {
			each(votes(5, k), wrong)
			each(votes(5, 0, 1, k), wrong)
			each(votes(5, k, 1), wrong)
		}
		for _, d := range wrongDigests() {
			each(votes(d, 0), wrong)
			each(append(votes(5, 0, 1), votes(d, 2)...), wrong)
			each(append(votes(d, 0), votes(5, 1)...), wrong)
		}
	}
}

// changed is l with a change or two, most of which no window goes through.
func changed(dice *rand.Rand, c cluster, l []api.Slot) []api.Slot {
	l = copySlots(l)
	for range 1 + dice.Intn(2) {
		if len(l) == 0 {
			return append(l, api.Slot{Seq: dice.Int63n(12), Prepares: votes(1, 0)})
		}
		i, j := dice.Intn(len(l)), dice.Intn(len(l))
		switch dice.Intn(8) {
		case 0:
			l[i], l[j] = l[j], l[i]
		case 1:
			l = slices.Insert(l, j, copySlots(l[i : i+1])[0])
		case 2:
			l[i].Seq += dice.Int63n(5) - 2
		case 3:
			l = slices.Delete(l, i, i+1)
		case 4:
			l[i].Prepares = changedVotes(dice, c, l[i].Prepares)
		case 5:
			l[i].Commits = changedVotes(dice, c, l[i].Commits)
		default:
			changeAccepted(dice, &l[i])
		}
	}
	return l
}

func changedVotes(dice *rand.Rand, c cluster, l []api.VoteOf) []api.VoteOf {
	v := api.VoteOf{Digest: api.Digest(dice.Intn(6)), Sign: sign(dice.Intn(c.brokers+3) - 1)}
	i := dice.Intn(len(l) + 1)
	if i == len(l) || dice.Intn(2) == 0 {
		return slices.Insert(l, i, v)
	}
	if dice.Intn(2) == 0 {
		return slices.Delete(l, i, i+1)
	}
	l[i] = v
	return l
}

func changeAccepted(dice *rand.Rand, s *api.Slot) {
	switch dice.Intn(5) {
	case 0:
		s.Has = !s.Has
	case 1:
		s.Digest = api.Digest(dice.Intn(4) - 1)
	case 2:
		s.First = api.Sign{Key: dice.Intn(3), Digest: api.Digest(dice.Intn(2))}
	case 3:
		s.Batch = wrongBatches()[dice.Intn(len(wrongBatches()))].b
	default:
		s.Batch = someBatches()[dice.Intn(len(someBatches()))]
	}
}

// P13.4: From takes just the lists that All may go through, of many near such ones.
func TestFromChanged(t *testing.T) {
	taken, refused := 0, 0
	for _, c := range clusters() {
		for seed := range int64(40) {
			dice := rand.New(rand.NewSource(seed))
			b := beginBoth(t, c, []int64{0, 4, 1<<53 - 5}[dice.Intn(3)])
			for range 20 + dice.Intn(40) {
				b.take(anySaid(dice, b.m))
			}
			for range 40 {
				l := changed(dice, c, all(b.w))
				if fromIs(t, c, b.m.low, l) != nil {
					taken++
				} else {
					refused++
				}
			}
		}
	}
	if taken < 500 || refused < 500 {
		t.Errorf("%d taken, %d refused", taken, refused)
	}
}

// THE BOUND: long lists, batches and votes are refused.
func TestFromLong(t *testing.T) {
	const many = 1 << 20
	c := clusters()[3]
	slots := make([]api.Slot, many)
	for i := range slots {
		slots[i] = api.Slot{Seq: int64(i + 1), Has: true, Digest: 1}
	}
	wrong := func(l ...api.Slot) {
		t.Helper()
		if w, e := window.From(c.f, 0, l...); w != nil || e != 1 {
			t.Errorf("From = %v, %d", w, e)
		}
	}
	wrong(slots...)
	wrong(slots[:9]...)
	okay(t, c, 0, slots[:8]...)
	wrong(api.Slot{Seq: 1, Has: true, Digest: 1, Batch: make(api.Batch, many)})
	rising := make([]api.VoteOf, many)
	for k := range rising {
		rising[k] = api.VoteOf{Digest: 1, Sign: sign(k)}
	}
	wrong(api.Slot{Seq: 1, Prepares: rising})
	wrong(api.Slot{Seq: 1, Commits: rising})
	wrong(api.Slot{Seq: 1, Prepares: rising[:14]})
	okay(t, c, 0, api.Slot{Seq: 1, Prepares: rising[:13]})
	w := start(t, 4, 0)
	if e := w.Accept(1, 1, sign(0), make(api.Batch, many)); e != 3 {
		t.Errorf("Accept = %d", e)
	}
}
