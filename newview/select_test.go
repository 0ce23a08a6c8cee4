package newview_test

import (
	"math"
	"math/rand"
	"slices"
	"testing"
	"time"

	"bulla/api"
	"bulla/newview"
)

// mark is a batch that tells by its one request what it is.
func mark(n int) api.Batch {
	return api.Batch{{Request: api.Request{Client: n, Time: int64(n)}, Sign: api.Sign{Key: n, Digest: api.Digest(n)}}}
}

// tell is what a view-change tells of a number: Select does not ask what shows it.
func tell(view, seq int64, n int) api.Prepared {
	return api.Prepared{View: view, Seq: seq, Digest: api.Digest(n), First: api.Sign{Key: n}, Batch: mark(n)}
}

// says are view-changes of the brokers from 0 on, with checkpoints of these numbers.
func says(lows ...int64) []api.Change {
	var l []api.Change
	for k, low := range lows {
		l = append(l, api.Change{View: int64(40 + k), From: k, Cert: api.Cert{Seq: low, Digest: api.Digest(100 + k), Signs: []api.Sign{{Key: k, Digest: api.Digest(k)}}}})
	}
	return l
}

// lows are so many times a number.
func lows(n int, low int64) []int64 {
	return slices.Repeat([]int64{low}, n)
}

// wants tells where a choice is not of this checkpoint and these batches, from one above it on (0: the empty one).
func (a answer) wants(t *testing.T, cert api.Cert, view int64, batches ...int) {
	t.Helper()
	var entries []api.Entry
	for i, n := range batches {
		x := api.Entry{View: view, Seq: cert.Seq + 1 + int64(i)}
		if n > 0 {
			x.Batch = mark(n)
		}
		entries = append(entries, x)
	}
	if !same(a, answer{Cert: cert, Entries: entries}) {
		t.Fatalf("got %+v, want %+v and %v", a, cert, batches)
	}
}

// The chapter's example.
func TestSelectExample(t *testing.T) {
	l := []api.Change{{View: 2, Above: []api.Prepared{tell(0, 1, 7), tell(0, 3, 8)}}, {View: 2, From: 1}, {View: 2, From: 3, Above: []api.Prepared{tell(1, 3, 9)}}}
	choose(t, 1, 2, l...).wants(t, api.Cert{}, 2, 7, 0, 9)
}

// P16.2: an f that may not be, ahead of all else.
func TestSelectFaults(t *testing.T) {
	for _, c := range clusters() {
		for _, f := range append(wrongFaults(), 1, 2, 3, 4) {
			want := api.OK
			o, is := clusterOf(f)
			switch {
			case !is:
				want = api.ErrFaults
			case o.brokers < c.brokers:
				want = api.ErrArg
			case o.big > c.brokers:
				want = api.ErrFew
			}
			if a := choose(t, f, 3, says(lows(c.brokers, 4)...)...); a.Err != want {
				t.Errorf("f %d, %d view-changes: %d", f, c.brokers, a.Err)
			}
		}
	}
	for _, f := range wrongFaults() {
		for _, view := range append(wrongViews(), 1) {
			for _, l := range [][]api.Change{nil, says(0, 0, 0), says(0), {{From: 2}, {From: 1}, {From: 0}}, {{From: -1}}} {
				if a := choose(t, f, view, l...); a.Err != api.ErrFaults {
					t.Errorf("f %d: %d", f, a.Err)
				}
			}
		}
	}
}

// P16.2: views at the ends of what they may be, and beyond; ahead of too few view-changes.
func TestSelectView(t *testing.T) {
	for _, c := range clusters() {
		for _, n := range []int{0, 1, c.big - 1, c.big, c.brokers} {
			l := says(lows(n, 4)...)
			for _, view := range wrongViews() {
				if a := choose(t, c.f, view, l...); a.Err != api.ErrArg {
					t.Errorf("f %d, view %d of %d: %d", c.f, view, n, a.Err)
				}
			}
			for _, view := range []int64{1, 2, 3, 1 << 32, most - 1, most} {
				if a := choose(t, c.f, view, l...); a.Err == api.OK != (n >= c.big) || n < c.big && a.Err != api.ErrFew {
					t.Errorf("f %d, view %d of %d: %d", c.f, view, n, a.Err)
				}
			}
		}
	}
}

// P16.2: how many view-changes there are, whoever made them.
func TestSelectFew(t *testing.T) {
	for _, c := range clusters() {
		l := says(lows(c.brokers, 4)...)
		l[c.brokers-1].Above = []api.Prepared{tell(1, 5, 1)}
		for n := range c.brokers + 1 {
			want := api.ErrFew
			if n >= c.big {
				want = api.OK
			}
			if a := choose(t, c.f, 3, l[:n]...); a.Err != want {
				t.Errorf("f %d, %d view-changes: %d", c.f, n, a.Err)
			}
			if a := choose(t, c.f, 3, l[c.brokers-n:]...); a.Err != want || n >= c.big && len(a.Entries) != 1 {
				t.Errorf("f %d, the last %d view-changes: %+v", c.f, n, a)
			}
		}
		for _, some := range choices(l, c.big) {
			var want []int
			if some[c.big-1].From == c.brokers-1 {
				want = append(want, 1)
			}
			choose(t, c.f, 3, some...).wants(t, some[0].Cert, 3, want...)
		}
	}
}

// P16.2: Froms that do not rise, or that are no broker's; ahead of too few view-changes.
func TestSelectFroms(t *testing.T) {
	for _, c := range clusters() {
		for _, n := range []int{2, c.big - 1, c.big, c.brokers} {
			refused := func(do func(l []api.Change)) {
				t.Helper()
				l := says(lows(n, 4)...)
				do(l)
				if a := choose(t, c.f, 3, l...); a.Err != api.ErrArg {
					t.Errorf("f %d: %d view-changes: %+v", c.f, n, a)
				}
			}
			for i := range n {
				for j := range i {
					refused(func(l []api.Change) { l[i], l[j] = l[j], l[i] })
					refused(func(l []api.Change) { l[i].From = j })
					refused(func(l []api.Change) { l[j].From = i })
				}
				for _, from := range wrongFroms(c.brokers) {
					refused(func(l []api.Change) { l[i].From = from })
				}
			}
			refused(func(l []api.Change) { slices.Reverse(l) })
		}
		for _, from := range wrongFroms(c.brokers) {
			if a := choose(t, c.f, 3, api.Change{From: from}); a.Err != api.ErrArg {
				t.Errorf("f %d: of %d alone: %d", c.f, from, a.Err)
			}
		}
		if a := choose(t, c.f, 3, slices.Concat(says(lows(c.brokers, 4)...), says(lows(c.brokers, 4)...))...); a.Err != api.ErrArg {
			t.Errorf("f %d: all twice: %d", c.f, a.Err)
		}
	}
}

// P16.2: the greatest checkpoint, of several the first one, wherever it stands.
func TestSelectCert(t *testing.T) {
	for _, c := range clusters() {
		for i := range c.brokers {
			for j := range i + 1 {
				for _, low := range []int64{5, 8, most, math.MaxInt64} { // what may be a checkpoint's is not asked
					l := says(lows(c.brokers, 4)...)
					l[i].Cert.Seq, l[j].Cert.Seq = low, low
					choose(t, c.f, 3, l...).wants(t, l[j].Cert, 3)
					l[i].Cert.Seq++ // the last one is the greatest, but for one that can't be greater
					choose(t, c.f, 3, l...)
				}
			}
		}
		l := says(lows(c.brokers, 4)...)
		choose(t, c.f, 3, l...).wants(t, l[0].Cert, 3)
		for k := range l {
			l[k].Cert.Seq = int64(k)
		}
		choose(t, c.f, 3, l...).wants(t, l[c.brokers-1].Cert, 3)
		choose(t, c.f, 3, l[:c.big]...).wants(t, l[c.big-1].Cert, 3)
		choose(t, c.f, 3, make([]api.Change, c.brokers)...)
	}
	for _, some := range arrangements([]int64{0, 4, 8, 8}) {
		l := says(some...)
		choose(t, 1, 3, l...).wants(t, l[slices.Index(some, 8)].Cert, 3)
	}
}

// P16.2: numbers around the checkpoint, up to the window's end and beyond it, whoever tells them.
func TestSelectWindow(t *testing.T) {
	for _, c := range clusters() {
		for _, low := range []int64{0, 1, 4, 9, 1 << 32, most - 8, most, 1 << 62, math.MaxInt64 - 9, math.MaxInt64 - 8, math.MaxInt64 - 3, math.MaxInt64 - 1, math.MaxInt64} {
			for k := range c.brokers {
				l := says(lows(c.brokers, low)...)
				choose(t, c.f, 3, l...).wants(t, l[0].Cert, 3)
				for away := int64(-12); away <= 12; away++ {
					if low > math.MaxInt64-max(0, away) {
						continue
					}
					l[k].Above = []api.Prepared{tell(2, low+away, 5)}
					a := choose(t, c.f, 3, l...)
					if len(a.Entries) != int(min(8, max(0, away))) {
						t.Errorf("%d above %d: %+v", away, low, a)
					}
					if away >= 1 && away <= 8 {
						a.wants(t, l[0].Cert, 3, append(make([]int, away-1), 5)...)
					}
					l[k].Above = append(l[k].Above, tell(1, low, 6), tell(1, 0, 7), tell(1, -1, 8), tell(1, math.MinInt64, 9), tell(0, low-1, 9))
					choose(t, c.f, 3, l...)
					l[(k+1)%c.brokers].Above = []api.Prepared{tell(2, math.MaxInt64-8, 6), tell(2, math.MaxInt64, 7)}
					choose(t, c.f, 3, l...)
					l[(k+1)%c.brokers].Above = nil
				}
			}
		}
	}
}

// P16.2: several numbers in the window and behind it, all of which are told: the last ones are left out.
func TestSelectBeyond(t *testing.T) {
	for _, c := range clusters() {
		for n := range int64(14) {
			l := says(lows(c.big, 4)...)
			var want []int
			for i := range n {
				l[int(i)%c.big].Above = append(l[int(i)%c.big].Above, tell(i%3, 5+i, int(i)+1))
				want = append(want, int(i)+1)
			}
			choose(t, c.f, 3, l...).wants(t, l[0].Cert, 3, want[:min(n, 8)]...)
			l[1].Cert.Seq = 8 // what is told below that is left out, too
			choose(t, c.f, 3, l...).wants(t, l[1].Cert, 3, want[min(n, 4):min(n, 12)]...)
			l[1].Cert.Seq = 12
			choose(t, c.f, 3, l...).wants(t, l[1].Cert, 3, want[min(n, 8):]...)
		}
	}
}

// P16.2: checkpoints below 0, above which there is nothing, whatever is told.
func TestSelectBelow(t *testing.T) {
	for _, c := range clusters() {
		for _, low := range []int64{-1, -2, -4, -8, -9, -most, -1 << 62, math.MinInt64 + 8, math.MinInt64 + 1, math.MinInt64} {
			for _, seq := range []int64{math.MinInt64, low - 1, low, low + 1, low + 8, -1, 0, 1, 2, 8, 9, most, math.MaxInt64} {
				l := says(lows(c.big, low)...)
				l[1].Above = []api.Prepared{tell(2, seq, 5)}
				choose(t, c.f, 3, l...).wants(t, l[0].Cert, 3)
				l[2].Cert.Seq = 0
				choose(t, c.f, 3, l...)
				l[2].Cert.Seq = low - 1
				choose(t, c.f, 3, l...)
			}
		}
	}
}

// P16.2: of those that tell one number that with the greatest View, whatever Views there may be.
func TestSelectLatest(t *testing.T) {
	for _, c := range clusters() {
		for i := range c.brokers {
			for j := range c.brokers {
				if i == j {
					continue
				}
				for _, view := range []int64{math.MinInt64, -most, -2, -1, 0, 1, 2, 3, most, math.MaxInt64 - 1} {
					l := says(lows(c.brokers, 4)...)
					l[i].Above = []api.Prepared{tell(view, 6, 1)}
					choose(t, c.f, 3, l...).wants(t, l[0].Cert, 3, 0, 1)
					l[j].Above = []api.Prepared{tell(view+1, 6, 2)}
					choose(t, c.f, 3, l...).wants(t, l[0].Cert, 3, 0, 2)
					l[j].Above[0].View = view
					first := 1
					if j < i {
						first = 2
					}
					choose(t, c.f, 3, l...).wants(t, l[0].Cert, 3, 0, first)
				}
			}
		}
	}
}

// P16.2: of several with the same View the first one, by view-changes and then by places, in each order of four in three places.
func TestSelectFirst(t *testing.T) {
	for _, some := range arrangements([]api.Prepared{tell(1, 5, 1), tell(1, 5, 2), tell(0, 5, 3), tell(1, 6, 4)}) {
		for cuts := range 15 {
			a, b := min(cuts/4, cuts%4), max(cuts/4, cuts%4)
			l := says(0, 4, 4)
			l[0].Above, l[1].Above, l[2].Above = some[:a], some[a:b], some[b:]
			first := slices.IndexFunc(some, func(p api.Prepared) bool { return p.Seq == 5 && p.View == 1 })
			choose(t, 1, 3, l...).wants(t, l[1].Cert, 3, int(some[first].Digest), 4)
		}
	}
	for _, some := range arrangements([]api.Prepared{tell(0, 5, 1), tell(1, 5, 2), tell(2, 5, 3), tell(2, 5, 4)}) {
		for at := range 3 { // all in one view-change
			l := says(4, 4, 4)
			l[at].Above = some
			first := slices.IndexFunc(some, func(p api.Prepared) bool { return p.View == 2 })
			choose(t, 1, 3, l...).wants(t, l[0].Cert, 3, int(some[first].Digest))
		}
	}
}

// P16.2: numbers that nobody tells, between others, are the empty batch; one that is told with the empty batch hides an earlier one.
func TestSelectGaps(t *testing.T) {
	for _, c := range clusters() {
		for bits := range 1 << 10 {
			l := says(lows(c.big, 4)...)
			var want []int
			for i := range 10 {
				if bits>>i&1 == 1 {
					k := i * 7 % c.big
					l[k].Above = append(l[k].Above, tell(int64(i%2), int64(5+i), i+1))
					want = append(append(want, make([]int, i-len(want))...), i+1)
				}
			}
			choose(t, c.f, 3, l...).wants(t, l[0].Cert, 3, append(want, make([]int, 8)...)[:min(len(want), 8)]...)
		}
		l := says(lows(c.big, 4)...)
		l[0].Above = []api.Prepared{tell(0, 5, 1), tell(2, 6, 2)}
		l[1].Above = []api.Prepared{{View: 1, Seq: 5}, {View: 1, Seq: 6, Batch: api.Batch{}}, {View: 1, Seq: 7}}
		choose(t, c.f, 3, l...).wants(t, l[0].Cert, 3, 0, 2, 0)
	}
}

// P16.2: what the view-changes are otherwise is not asked: their Views, signatures, certificates, batches that may not be.
func TestSelectAsksNothing(t *testing.T) {
	for _, c := range clusters() {
		l := make([]api.Change, c.brokers)
		for k := range l {
			l[k].From = k
		}
		choose(t, c.f, 1, l...).wants(t, api.Cert{}, 1)
		wild := api.Batch{{}, {}, {}, {}, {}, {}, {Request: api.Request{Client: -1, Op: api.Op{Kind: 77, Records: make([]api.Record, 9)}}}}
		l[1] = api.Change{View: math.MinInt64, From: 1, Cert: api.Cert{Seq: 3, Digest: -1, Signs: make([]api.Sign, 99)}, Above: []api.Prepared{{View: -1, Seq: 5, Digest: -7, Batch: wild}}, Sign: api.Sign{Key: -9}}
		a := choose(t, c.f, most, l...)
		if !same(a, answer{Cert: l[1].Cert, Entries: []api.Entry{{View: most, Seq: 4}, {View: most, Seq: 5, Batch: wild}}}) {
			t.Errorf("%+v", a)
		}
	}
}

// anySeq is mostly a small number, and now and then one near the ends of what one can be.
func anySeq(dice *rand.Rand, below int64) int64 {
	if dice.Intn(60) == 0 {
		return []int64{math.MinInt64, math.MinInt64 + 1, -9, -1, most, most + 1, math.MaxInt64 - 8, math.MaxInt64 - 7, math.MaxInt64 - 1, math.MaxInt64}[dice.Intn(10)]
	}
	return dice.Int63n(below)
}

// anySays are view-changes of many brokers, which tell anything.
func anySays(dice *rand.Rand, c cluster) []api.Change {
	var l []api.Change
	many, far := 1+dice.Intn(6), 3+dice.Int63n(14)
	for k := range c.brokers {
		if dice.Intn(8) == 0 {
			continue
		}
		x := api.Change{From: k, Cert: api.Cert{Seq: anySeq(dice, 6), Digest: api.Digest(k)}}
		for range dice.Intn(many) {
			x.Above = append(x.Above, tell(anySeq(dice, 4), anySeq(dice, far), dice.Intn(100)))
		}
		l = append(l, x)
	}
	return l
}

// P16.2, P16.7: random view-changes, held against the chapter's words.
func TestSelectAny(t *testing.T) {
	for _, c := range clusters() {
		count := map[api.Errno]int{}
		long := 0
		dice := rand.New(rand.NewSource(int64(c.f)))
		for range 2500 {
			l, view := anySays(dice, c), anySeq(dice, 9)
			if n := len(l); n > 0 && dice.Intn(20) == 0 {
				l[dice.Intn(n)].From = dice.Intn(c.brokers+2) - 1
			}
			a := choose(t, c.f, view, l...)
			count[a.Err]++
			if len(a.Entries) > 3 {
				long++
			}
		}
		enough(t, "OK", count[api.OK], 1000)
		enough(t, "ErrArg", count[api.ErrArg], 100)
		enough(t, "ErrFew", count[api.ErrFew], 5)
		enough(t, "long ones", long, 300)
	}
}

// P16.7: entries are numbered one by one from one above the checkpoint on, whatever Select takes.
func TestNoGaps(t *testing.T) {
	for _, c := range clusters() {
		dice := rand.New(rand.NewSource(int64(c.f)))
		many := map[int]int{}
		for range 4000 {
			l := anySays(dice, c)
			cert, entries, e := newview.Select(c.f, 1+dice.Int63n(9), l...)
			if e != api.OK && len(entries) > 0 {
				t.Fatalf("%+v beside %d", entries, e)
			}
			noGaps(t, cert, entries)
			many[len(entries)]++
		}
		for n := range 9 {
			if many[n] == 0 {
				t.Errorf("f %d: never %d entries", c.f, n)
			}
		}
		if len(many) > 9 {
			t.Errorf("f %d: %v", c.f, many)
		}
	}
}

// R6: the same calls answer the same, whatever order the map has.
func TestSelectAgain(t *testing.T) {
	dice := rand.New(rand.NewSource(16))
	for range 300 {
		c := clusters()[dice.Intn(4)]
		l := anySays(dice, c)
		first := choose(t, c.f, 3, l...)
		for range 5 {
			if again := choose(t, c.f, 3, l...); !same(first, again) {
				t.Fatalf("%+v, then %+v", first, again)
			}
		}
	}
}

// THE BOUND: long lists are gone through a few times, and not for each number anew.
func TestSelectNearLinear(t *testing.T) {
	const n = 1 << 17
	l := says(4, 4, 4)
	for i := range n {
		for k := range l {
			l[k].Above = append(l[k].Above, api.Prepared{Seq: int64((n-i)*(k+1)) % n * 8, View: int64(i % 9)})
		}
	}
	begin := time.Now()
	m := allocated(func() {
		if _, entries, e := newview.Select(1, 3, l...); e != api.OK || len(entries) != 8 {
			t.Errorf("%d entries, %d", len(entries), e)
		}
	})
	if took := time.Since(begin); took > 10*time.Second || m > 3*n*1000 {
		t.Errorf("%v, %d bytes of memory", took, m)
	}
	many := make([]api.Change, 1<<18) // all of one broker
	if m := allocated(func() {
		if _, _, e := newview.Select(4, 3, many...); e != api.ErrArg {
			t.Errorf("of too many: %d", e)
		}
	}); m > 1<<16 {
		t.Errorf("%d bytes of memory", m)
	}
}
