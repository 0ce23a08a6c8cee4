package newview_test

import (
	"math/rand"
	"slices"
	"strconv"
	"testing"

	"bulla/api"
	"bulla/auth"
	"bulla/newview"
	"bulla/request"
)

// makes makes a new view that there is no error of.
func (h house) makes(t *testing.T, c cluster, view int64, l ...api.Change) api.Msg {
	t.Helper()
	m, e := h.make(t, c.f, view, l...)
	if e != api.OK {
		t.Fatalf("Make(%d, %d, %+v): %d", c.f, view, l, e)
	}
	return m
}

// P16.3, P16.5: of as many view-changes as must be and more, whoever made them, to any view.
func TestMake(t *testing.T) {
	for _, c := range clusters() {
		h := newHouse()
		dice := rand.New(rand.NewSource(int64(c.f)))
		for _, view := range []int64{1, 2, 3, 4, 5, 12, 13, 1 << 32, most - 1, most} {
			all := h.rich(c, view)
			for n := c.big; n <= c.brokers; n++ {
				keys := dice.Perm(c.brokers)[:n]
				slices.Sort(keys)
				var l []api.Change
				for _, k := range keys {
					l = append(l, all[k])
				}
				m := h.makes(t, c, view, l...)
				if m.From != int(view%int64(c.brokers)) || m.View != view || !same(m.Changes, l[:c.big]) || m.Sign.Key != m.From {
					t.Errorf("f %d: %+v", c.f, m)
				}
			}
			m := h.makes(t, c, view, h.plain(view, upTo(c.brokers)...)...)
			if len(m.Entries) > 0 || len(m.Changes) != c.big {
				t.Errorf("f %d: %+v", c.f, m)
			}
		}
	}
}

// P16.3: what is signed, told one by one: each entry's batch and vote, and then the whole, all by the primary.
func TestMakeSigns(t *testing.T) {
	h, c := newHouse(), clusters()[0]
	b := h.batch(1)
	l := []api.Change{h.change(2, 0, api.Cert{}), h.change(2, 1, api.Cert{}, h.ready(c, 1, 2, b)), h.change(2, 3, api.Cert{})}
	d, known := h.x.Look(request.PutBatch(nil, b))
	sums, signs := h.x.Len(), h.l.Len()
	m := h.makes(t, c, 2, l...)
	n := api.Digest(sums)
	if !known || m.From != 2 || len(m.Entries) != 2 || m.Entries[0].Sign != (api.Sign{Key: 2, Digest: n + 2}) || m.Entries[1].Sign != (api.Sign{Key: 2, Digest: n + 3}) || m.Sign != (api.Sign{Key: 2, Digest: n + 4}) {
		t.Fatalf("%d texts, and %+v", sums, m)
	}
	whole, _ := auth.Content(m)
	for i, want := range [][]byte{{0}, {4, 2, 2, 1, byte(n + 1)}, {4, 2, 2, 2, byte(d)}, whole} {
		if text, _ := h.x.Open(n + 1 + api.Digest(i)); string(text) != string(want) {
			t.Errorf("the text %d is %v, want %v", i, text, want)
		}
	}
	if h.x.Len() != sums+4 || !slices.Equal(h.l.Signs()[signs:], []api.Sign{m.Entries[0].Sign, m.Entries[1].Sign, m.Sign}) {
		t.Errorf("%d texts, %v", h.x.Len(), h.l.Signs()[signs:])
	}
	again := h.makes(t, c, 2, l...)
	if !same(m, again) || h.x.Len() != sums+4 || h.l.Len() != signs+3 {
		t.Errorf("again: %+v", again)
	}
}

// P16.3: the first so many alone go into the message and its entries, whatever the others tell.
func TestMakeFirst(t *testing.T) {
	for _, c := range clusters() {
		h := newHouse()
		first := h.plain(3, upTo(c.big)...)
		first[1] = h.change(3, 1, h.at(c, 4), h.ready(c, 1, 6, h.batch(2)))
		m := h.makes(t, c, 3, first...)
		for n := 1; c.big+n <= c.brokers; n++ {
			l := slices.Clone(first)
			for k := c.big; k < c.big+n; k++ {
				l = append(l, h.change(3, k, h.at(c, 8), h.ready(c, 2, 10, h.batch(1)), h.ready(c, 1, 11, h.batch(3))))
			}
			if x := h.makes(t, c, 3, l...); !same(x, m) || len(x.Entries) != 2 {
				t.Errorf("f %d, %d more: %+v", c.f, n, x)
			}
			l[c.big] = h.change(3, c.big, h.at(c, 4), h.ready(c, 2, 5, h.batch(1)), h.ready(c, 2, 6, h.batch(1)), h.ready(c, 2, 7, nil))
			if x := h.makes(t, c, 3, l...); !same(x, m) {
				t.Errorf("f %d, %d more: %+v", c.f, n, x)
			}
			x := h.makes(t, c, 3, l[n:]...) // the others are among the first here
			if same(x.Changes, first) || !same(x.Changes, l[n:][:c.big]) || len(x.Entries) < 2 {
				t.Errorf("f %d, behind %d: %+v", c.f, n, x)
			}
		}
	}
}

// P16.3: ErrMade ahead of all else, then Select's errors, then ErrChange.
func TestMakeErrors(t *testing.T) {
	for _, c := range clusters() {
		h := newHouse()
		good := h.rich(c, 3)
		bad := slices.Clone(good)
		bad[1].Sign = good[0].Sign
		twice := append(slices.Clone(bad), bad[c.brokers-1])
		for _, l := range [][]api.Change{good, bad, twice, good[:1], bad[:c.big-1], nil} {
			for _, x := range h.unmade() {
				for _, f := range []int{c.f, 0, 5} {
					for _, view := range []int64{3, 0} {
						if _, e := x.make(t, f, view, l...); e != api.ErrMade {
							t.Errorf("of what no call made: %d", e)
						}
					}
				}
			}
			for _, f := range wrongFaults() {
				for _, view := range []int64{3, 0} {
					if _, e := h.make(t, f, view, l...); e != api.ErrFaults {
						t.Errorf("f %d: %d", f, e)
					}
				}
			}
			for _, view := range wrongViews() {
				if _, e := h.make(t, c.f, view, l...); e != api.ErrArg {
					t.Errorf("view %d: %d", view, e)
				}
			}
		}
		for i, x := range []struct {
			l []api.Change
			e api.Errno
		}{
			{good, api.OK}, {bad, api.ErrChange}, {twice, api.ErrArg}, {nil, api.ErrFew}, {good[:1], api.ErrFew}, {good[:c.big-1], api.ErrFew}, {bad[:c.big-1], api.ErrFew},
			{good[:c.big], api.OK}, {bad[:c.big], api.ErrChange}, {twice[:2], api.ErrFew}, {twice[c.brokers-1:], api.ErrArg}, {append([]api.Change{{From: -1}}, good...), api.ErrArg},
			{append(slices.Clone(good), h.change(3, c.brokers, api.Cert{})), api.ErrArg},
		} {
			if _, e := h.make(t, c.f, 3, x.l...); e != x.e {
				t.Errorf("f %d, %d: %d, want %d", c.f, i, e, x.e)
			}
		}
		for _, view := range []int64{1, 2, 4, 3 + int64(c.brokers), most} {
			if _, e := h.make(t, c.f, view, good...); e != api.ErrChange {
				t.Errorf("to another view: %d", e)
			}
		}
	}
}

// P16.3: one view-change that is not valid, among the first ones and behind them.
func TestMakeEachValid(t *testing.T) {
	for _, c := range clusters() {
		h := newHouse()
		good := h.rich(c, 3)
		for i := range good {
			for _, bad := range []api.Change{
				{View: 3, From: i},
				{View: 3, From: i, Cert: good[i].Cert, Above: good[i].Above, Sign: good[(i+1)%c.brokers].Sign},
				h.change(2, i, api.Cert{}),
				h.change(3, i, h.cert(4, 9, upTo(c.big-1)...)),
				h.change(3, i, h.cert(5, 9, upTo(c.big)...)),
				h.change(3, i, api.Cert{}, h.ready(c, 3, 5, nil)),
				h.change(3, i, api.Cert{}, h.ready(c, 2, 9, nil)),
				h.change(3, i, api.Cert{}, api.Prepared{View: 2, Seq: 5, Batch: h.batch(1)}),
			} {
				l := slices.Clone(good)
				l[i] = bad
				if _, e := h.make(t, c.f, 3, l...); e != api.ErrChange {
					t.Errorf("f %d: not valid at %d: %d", c.f, i, e)
				}
				if _, e := h.make(t, c.f, 3, slices.Delete(l, i, i+1)...); e != api.OK {
					t.Errorf("f %d: without the one at %d: %d", c.f, i, e)
				}
			}
		}
		other := newHouse() // to which all of it is strange
		if _, e := other.make(t, c.f, 3, good...); e != api.ErrChange {
			t.Errorf("f %d: %d", c.f, e)
		}
	}
}

// P16.3: entries whose batch the table has not learnt: it learns the empty one by them, once.
func TestMakeLearns(t *testing.T) {
	for _, c := range clusters() {
		h := newHouse()
		l := h.plain(3, upTo(c.big)...)
		l[1] = h.change(3, 1, api.Cert{}, h.ready(c, 1, 2, h.batch(1)), h.ready(c, 2, 4, h.batch(2)))
		if _, known := h.x.Look([]byte{0}); known {
			t.Fatal("the table knows the empty batch already")
		}
		sums := h.x.Len()
		m := h.makes(t, c, 3, l...)
		if d, known := h.x.Look([]byte{0}); !known || d != api.Digest(sums+1) || len(m.Entries) != 4 || h.x.Len() != sums+6 {
			t.Errorf("f %d: %d, %v, %d texts, were %d", c.f, d, known, h.x.Len(), sums)
		}
	}
}

// crowdedChanges are view-changes to 3 in a table with room for so many texts: five are to be learnt of them, the empty batch, three votes and the whole.
func crowdedChanges(room int) (house, []api.Change) {
	h, c := crowded(), clusters()[0]
	l := []api.Change{h.change(3, 0, api.Cert{}), h.change(3, 1, api.Cert{}, h.ready(c, 0, 1, h.batch(1)), h.ready(c, 2, 3, h.batch(2))), h.change(3, 2, api.Cert{})}
	h.leave(room)
	return h, l
}

// P16.3, R2: a table that is full, or becomes so: with the error nothing is learnt and nothing signed.
func TestMakeFull(t *testing.T) {
	for room := range 7 {
		h, l := crowdedChanges(room)
		want := api.ErrFull
		if room >= 5 {
			want = api.OK
		}
		if _, e := h.make(t, 1, 3, l...); e != want {
			t.Errorf("room for %d: %d", room, e)
		}
		if e := h.x.Len(); want == api.OK && e != api.MaxSums-room+5 {
			t.Errorf("room for %d: %d texts", room, e)
		}
		if room%4 > 0 {
			continue
		}
		bad := slices.Clone(l)
		bad[2].View = 2
		if _, e := h.make(t, 1, 3, bad...); e != api.ErrChange { // ahead of it
			t.Errorf("room for %d: %d", room, e)
		}
		if _, e := h.make(t, 1, 3, l...); e != want { // what is known needs no room
			t.Errorf("room for %d, again: %d", room, e)
		}
	}
}

// P16.3: a full table that knows all of it, or all but some of it.
func TestMakeFullKnown(t *testing.T) {
	first, l := crowdedChanges(5)
	m, _ := first.make(t, 1, 3, l...)
	texts := first.x.Plain()[api.MaxSums-5:]
	for n := range 6 { // as many of these are known already, in the order in which they would come
		h, l := crowdedChanges(5)
		for _, b := range texts[:n] {
			h.x.Sum(b)
		}
		for i := h.x.Len(); i < api.MaxSums; i++ {
			h.x.Sum([]byte("another " + strconv.Itoa(i)))
		}
		want := api.ErrFull
		if n == 5 {
			want = api.OK
		}
		x, e := h.make(t, 1, 3, l...)
		if e != want || e == api.OK && !same(x, m) {
			t.Errorf("%d are known: %d, %+v", n, e, x)
		}
	}

	h, l := crowdedChanges(5) // somebody has asked for the whole ahead of its entries: it says already which numbers these are to have
	early := normal(m)
	d := api.Digest(api.MaxSums - 5 + 2)
	for i, n := range []api.Digest{0, 2, 3} { // the empty batch stands between
		early.Entries[i].Sign = api.Sign{Key: 3, Digest: d + n}
	}
	h.x.Sum(signedOf(early))
	x, e := h.make(t, 1, 3, l...)
	if e != api.OK || x.Sign.Digest != d-1 || h.x.Len() != api.MaxSums {
		t.Errorf("the whole is known, and there is room for the rest: %+v, %d, %d texts", x, e, h.x.Len())
	}
}

// P16.3, P16.5: any view-changes, held against what auth makes of Select's entries; and Check takes what comes of it.
func TestMakeAny(t *testing.T) {
	for _, c := range clusters() {
		count := map[api.Errno]int{}
		dice := rand.New(rand.NewSource(int64(c.f)))
		h := newHouse()
		for range 120 {
			view := 1 + dice.Int63n(5)
			var l []api.Change
			for k := range c.brokers {
				if dice.Intn(6) > 0 {
					l = append(l, h.anyChange(dice, c, view, k))
				}
			}
			if n := len(l); n > 0 && dice.Intn(10) == 0 {
				l[dice.Intn(n)].From = dice.Intn(c.brokers)
			}
			_, e := h.make(t, c.f, view+dice.Int63n(20)/19, l...)
			count[e]++
		}
		enough(t, "OK", count[api.OK], 20)
		enough(t, "ErrChange", count[api.ErrChange], 10)
	}
}

// R6: the same calls answer the same, and learn the same.
func TestMakeAgain(t *testing.T) {
	for _, c := range clusters() {
		h := newHouse()
		l := h.rich(c, 3)
		var first api.Msg
		for i := range 6 {
			x := h.clone()
			m := x.makes(t, c, 3, l...)
			if i == 0 {
				first = m
			}
			if !same(m, first) {
				t.Fatalf("%+v, then %+v", first, m)
			}
		}
	}
}

// THE BOUND: as long as a table has room, neither table nor ledger is gone through.
func TestMakeNearLinear(t *testing.T) {
	c := clusters()[3]
	h := newHouse()
	for i := range 1 << 17 {
		h.x.Sum([]byte("filler " + strconv.Itoa(i)))
		h.l.Sign(i%api.MaxKeys, api.Digest(1+i))
	}
	l := h.rich(c, 3)
	if n := allocated(func() {
		for range 20 {
			if _, e := newview.Make(h.x, h.l, 4, 3, l...); e != api.OK {
				t.Errorf("Make: %d", e)
			}
		}
	}); n > 1<<24 {
		t.Errorf("%d bytes of memory", n)
	}
	many := make([]api.Change, 1<<16)
	if n := allocated(func() {
		if _, e := newview.Make(h.x, h.l, 4, 3, many...); e != api.ErrArg {
			t.Errorf("of too many: %d", e)
		}
	}); n > 1<<20 {
		t.Errorf("%d bytes of memory", n)
	}
}
