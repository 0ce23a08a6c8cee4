package newview_test

import (
	"math"
	"math/rand"
	"slices"
	"testing"

	"bulla/api"
	"bulla/auth"
	"bulla/newview"
)

// newOf is the new view of these view-changes, put together by hand, its entries signed by its primary.
func (h house) newOf(c cluster, view int64, l ...api.Change) api.Msg {
	m := api.Msg{Kind: api.MsNewView, From: c.primary(view), View: view, Changes: l}
	for _, x := range chosen(c.f, view, l).Entries {
		m.Entries = append(m.Entries, h.entry(m.From, view, x.Seq, x.Batch))
	}
	return h.sealed(m)
}

// goodNew is one of as many rich view-changes as must be: five entries above 8, the empty batch in two of them.
func (h house) goodNew(c cluster, view int64) api.Msg {
	return h.newOf(c, view, h.rich(c, view)[:c.big]...)
}

// P16.4: of as many view-changes as must be and more, whoever made them, to any view.
func TestCheck(t *testing.T) {
	for _, c := range clusters() {
		h := newHouse()
		dice := rand.New(rand.NewSource(int64(c.f)))
		for _, view := range []int64{1, 2, 3, 4, 5, 13, 14, 1 << 32, most - 1, most} {
			all := h.rich(c, view)
			for range 6 {
				n := c.big + dice.Intn(c.f+1)
				keys := dice.Perm(c.brokers)[:n]
				slices.Sort(keys)
				var l []api.Change
				for _, k := range keys {
					l = append(l, all[k])
				}
				h.check(t, true, c.f, h.newOf(c, view, l...))
			}
			h.check(t, true, c.f, h.newOf(c, view, all...))
			h.check(t, true, c.f, h.newOf(c, view, h.plain(view, upTo(c.big)...)...)) // of no entries
		}
	}
}

// P16.4: what is told is the checkpoint, and the entries as they were signed.
func TestCheckTells(t *testing.T) {
	for _, c := range clusters() {
		h := newHouse()
		m := h.goodNew(c, 3)
		cert, entries, is := newview.Check(h.x, h.l, c.f, m)
		if !is || !same(cert, h.at(c, 8)) || len(entries) != 5 || !same(entries, m.Entries) {
			t.Fatalf("f %d: %+v, %+v, %v", c.f, cert, entries, is)
		}
		for i, x := range entries {
			if x.View != 3 || x.Seq != int64(9+i) || x.Sign.Key != c.primary(3) || i%2 == 0 == (len(x.Batch) == 0) {
				t.Errorf("f %d: entry %d is %+v", c.f, i, x)
			}
		}
		m.Entries[1].Batch = api.Batch{} // R4: nil or empty is the same, here and there
		h.check(t, true, c.f, m)
		m = h.newOf(c, 3, h.plain(3, upTo(c.big)...)...)
		m.Changes[0].Above, m.Changes[0].Cert.Signs, m.Entries = []api.Prepared{}, []api.Sign{}, []api.Entry{}
		m.State, m.Batch = []byte{}, api.Batch{}
		h.check(t, true, c.f, m)
	}
}

// P16.4: messages of other Kinds, with the same in them or with what they may have.
func TestCheckKinds(t *testing.T) {
	c := clusters()[0]
	h := newHouse()
	m := h.goodNew(c, 3)
	for _, kind := range []int{0, 1, 2, 3, 4, 5, 6, 7, 8, 9, 10, 11, 12, 13, -1, 256 + 8, math.MinInt, math.MaxInt} {
		x := m
		x.Kind = kind
		h.check(t, kind == 8, c.f, x)
		h.check(t, kind == 8, c.f, h.sealed(x))
		h.check(t, false, c.f, api.Msg{Kind: kind})
	}
	for _, x := range []api.Msg{
		auth.Change(m.Changes[0]),
		{Kind: api.MsPrepare, From: 3, View: 3, Seq: 9, Digest: 9},
		{Kind: api.MsCheckpoint, From: 3, Seq: 4, Digest: 9},
		{Kind: api.MsFetch, From: 3},
		{Kind: api.MsSnap, From: 3},
		{Kind: api.MsAsk, Topic: "t"},
		{Kind: api.MsRequest, Batch: h.batch(1)},
	} {
		x, e := auth.Seal(h.x, h.l, x)
		if e != api.OK || !auth.Valid(h.x, h.l, x) {
			t.Fatalf("%+v: %d", x, e)
		}
		h.check(t, false, c.f, x)
	}
}

// P16.4: a new view that is not sealed, or by another key, or that was sealed ahead of what stands in it.
func TestCheckSign(t *testing.T) {
	for _, c := range clusters() {
		h := newHouse()
		m := h.goodNew(c, 2)
		with := func(s api.Sign) {
			t.Helper()
			x := m
			x.Sign = s
			h.check(t, s == m.Sign, c.f, x)
		}
		for _, d := range []api.Digest{0, 1, -1, m.Sign.Digest + 1, m.Sign.Digest - 1, most, math.MinInt64, math.MaxInt64} {
			with(api.Sign{Key: m.From, Digest: d})
		}
		for key := -1; key <= 21; key++ {
			with(api.Sign{Key: key, Digest: m.Sign.Digest})
			h.l.Sign(key, m.Sign.Digest)
			with(api.Sign{Key: key, Digest: m.Sign.Digest})
		}
		with(api.Sign{})
		with(m.Changes[2].Sign)
		with(m.Entries[0].Sign)
		with(h.goodNew(c, 2+int64(c.brokers)).Sign)
		with(h.newOf(c, 2, h.rich(c, 2)...).Sign)

		forgot := house{h.x, newHouse().l} // all but the whole is signed
		for _, s := range h.l.Signs() {
			if s != m.Sign {
				forgot.l.Sign(s.Key, s.Digest)
			}
		}
		forgot.check(t, false, c.f, m)
		forgot.l.Sign(m.Sign.Key, m.Sign.Digest)
		forgot.check(t, true, c.f, m)
	}
}

// P16.4: by another broker than the primary, who has signed all of it; and of another view than its parts.
func TestCheckPrimary(t *testing.T) {
	for _, c := range clusters() {
		h := newHouse()
		for view := int64(1); view <= int64(2*c.brokers); view++ {
			good := h.newOf(c, view, h.rich(c, view)...)
			for from := -1; from <= 13; from++ {
				m := normal(good)
				m.From = from
				for i, x := range m.Entries {
					m.Entries[i] = h.entry(from, view, x.Seq, x.Batch)
				}
				h.check(t, from == int(view)%c.brokers, c.f, h.sealed(m))
			}
		}
		m := h.goodNew(c, 3)
		for _, view := range append(wrongViews(), 1, 2, 4, 3+int64(c.brokers), most) {
			x := normal(m)
			x.View = view
			h.check(t, false, c.f, h.sealed(x))
			x.From = c.primary(view)
			h.check(t, false, c.f, h.sealed(x))
			for i, y := range x.Entries {
				x.Entries[i] = h.entry(x.From, view, y.Seq, y.Batch)
			}
			h.check(t, false, c.f, h.sealed(x)) // the view-changes are to another one
		}
	}
}

// P16.4: an f that may not be, or that of another cluster.
func TestCheckFaults(t *testing.T) {
	for _, a := range clusters() {
		h := newHouse()
		m := h.newOf(a, 3, h.rich(a, 3)...)
		for _, f := range append(wrongFaults(), 1, 2, 3, 4) {
			h.check(t, f == a.f, f, m)
		}
		empty := h.newOf(a, 3, h.plain(3, upTo(a.big)...)...)
		for _, b := range clusters() { // which says nothing that hangs on f, but for how many they are
			h.check(t, a.big >= b.big && a.big <= b.brokers && b.primary(3) == a.primary(3), b.f, empty)
		}
	}
}

// P16.4, R5: a table or a ledger that no call made, or of other calls.
func TestCheckUnmade(t *testing.T) {
	for _, c := range clusters() {
		h := newHouse()
		m := h.goodNew(c, 3)
		for _, bad := range append(h.unmade(), newHouse(), house{h.x, newHouse().l}, house{newHouse().x, h.l}) {
			bad.check(t, false, c.f, m)
			bad.check(t, false, 0, m)
			bad.check(t, false, c.f, api.Msg{Kind: 8})
		}
		h.check(t, true, c.f, m)
		h.clone().check(t, true, c.f, m)
	}
}

// P16.4: view-changes that are too few, do not rise, or are not by brokers.
func TestCheckChanges(t *testing.T) {
	for _, c := range clusters() {
		h := newHouse()
		good := h.newOf(c, 3, h.rich(c, 3)...)
		with := func(want bool, l ...api.Change) {
			t.Helper()
			m := good
			m.Changes = l
			h.check(t, want, c.f, h.sealed(m))
		}
		all := good.Changes
		for n := range c.brokers + 1 {
			h.check(t, n >= c.big, c.f, h.newOf(c, 3, all[:n]...))
			h.check(t, n >= c.big, c.f, h.newOf(c, 3, all[c.brokers-n:]...))
			with(n >= c.big, all[:n]...) // all entries of these, too, by the first brokers
		}
		for i := range all {
			for j := range i {
				l := slices.Clone(all)
				l[i], l[j] = l[j], l[i]
				with(false, l...)
				l = slices.Clone(all)
				l[i] = l[j]
				with(false, l...)
			}
			with(false, slices.Insert(slices.Clone(all), i, all[i])...)
		}
		for _, from := range wrongFroms(c.brokers) {
			l := slices.Clone(all)
			l[c.brokers-1] = h.change(3, from, api.Cert{})
			with(false, l...)
			with(false, append(slices.Clone(all), h.change(3, from, api.Cert{}))...)
			with(false, append([]api.Change{h.change(3, from, api.Cert{})}, all...)...)
		}
	}
}

// P16.4: one view-change that is not valid, in each place, which says nothing that the entries hang on.
func TestCheckEachValid(t *testing.T) {
	for _, c := range clusters() {
		h := newHouse()
		all := h.plain(3, upTo(c.brokers)...)
		all[0] = h.change(3, 0, h.at(c, 8), h.ready(c, 1, 10, h.batch(2)))
		for i := range all {
			for _, bad := range []api.Change{
				{View: 3, From: i},
				{View: 3, From: i, Sign: all[(i+1)%c.brokers].Sign},
				h.change(2, i, api.Cert{}),
				h.change(4, i, api.Cert{}),
				h.change(3, i, h.cert(4, 9, upTo(c.big-1)...)),
				h.change(3, i, h.cert(6, 9, upTo(c.big)...)),
				h.change(3, i, api.Cert{}, h.ready(c, 3, 5, nil)),
				h.change(3, i, api.Cert{}, h.ready(c, 0, 9, nil)),
				h.change(3, i, h.at(c, 4), h.ready(c, 0, 4, nil)),
				h.change(3, i, api.Cert{}, api.Prepared{Seq: 5, Digest: 1}),
			} {
				l := slices.Clone(all)
				l[i] = bad
				h.check(t, false, c.f, h.newOf(c, 3, l...))
			}
		}
		h.check(t, true, c.f, h.newOf(c, 3, all...))
	}
}

// P16.4: entries that are not those that Select has, whoever signed them; the message is sealed anew by its sender.
func TestCheckEntries(t *testing.T) {
	for _, c := range clusters() {
		h := newHouse()
		good := h.goodNew(c, 3)
		from, all := good.From, good.Entries
		with := func(want bool, l ...api.Entry) {
			t.Helper()
			m := good
			m.Entries = l
			h.check(t, want, c.f, h.sealed(m))
		}
		with(true, all...)
		for n := range len(all) {
			with(false, all[:n]...)
			with(false, all[len(all)-n:]...)
			with(false, append(slices.Clone(all), all[n])...)
		}
		for more := range int64(4) {
			with(false, append(slices.Clone(all), h.entry(from, 3, 13+more, nil))...)
			with(false, append([]api.Entry{h.entry(from, 3, 5+more, nil)}, all...)...)
		}
		with(false, append(slices.Clone(all), h.entry(from, 3, 14, nil), h.entry(from, 3, 15, nil), h.entry(from, 3, 16, nil))...)
		for n, l := range arrangements(all) {
			with(n == 0, l...)
		}
		for i, x := range all {
			try := func(want bool, y api.Entry) {
				t.Helper()
				l := slices.Clone(all)
				l[i] = y
				with(want, l...)
			}
			try(true, h.entry(from, 3, x.Seq, x.Batch))
			for _, view := range []int64{-1, 0, 1, 2, 4, 3 + int64(c.brokers), most, most + 1} {
				try(false, h.entry(from, view, x.Seq, x.Batch))
				try(false, api.Entry{View: view, Seq: x.Seq, Batch: x.Batch, Sign: x.Sign})
			}
			for _, seq := range []int64{-1, 0, 1, x.Seq - 1, x.Seq + 1, x.Seq + 8, most, most + 1} {
				try(false, h.entry(from, 3, seq, x.Batch))
				try(false, api.Entry{View: 3, Seq: seq, Batch: x.Batch, Sign: x.Sign})
			}
			for n := range 5 {
				b := h.batch(n)
				try(same(b, x.Batch), h.entry(from, 3, x.Seq, b))
				try(same(b, x.Batch), api.Entry{View: 3, Seq: x.Seq, Batch: b, Sign: x.Sign})
			}
			for _, b := range turned(x.Batch) { // of as many requests, most of them
				try(same(b, x.Batch), h.entry(from, 3, x.Seq, b))
			}
			for key := -1; key <= 21; key++ {
				try(key == from, h.entry(key, 3, x.Seq, x.Batch))
				try(key == from, api.Entry{View: 3, Seq: x.Seq, Batch: x.Batch, Sign: api.Sign{Key: key, Digest: x.Sign.Digest}})
			}
			for _, s := range []api.Sign{
				{}, {Key: from}, {Key: from, Digest: 1}, {Key: from, Digest: x.Sign.Digest + 1}, good.Sign, all[(i+1)%5].Sign,
				h.sign(from, 3, 3, x.Seq, h.learn(x.Batch)), h.sign(from, 2, 3, x.Seq, h.learn(x.Batch)+1),
			} {
				try(s == x.Sign, api.Entry{View: 3, Seq: x.Seq, Batch: x.Batch, Sign: s})
			}
		}
	}
}

// P16.4: an entry whose vote nobody has signed, or whose batch or vote a table has not learnt.
func TestCheckUnlearnt(t *testing.T) {
	for _, c := range clusters() {
		h := newHouse()
		m := h.newOf(c, 3, append(h.plain(3, upTo(c.big-1)...), h.change(3, c.big-1, api.Cert{}, h.ready(c, 1, 2, h.batch(1))))...)
		h.check(t, true, c.f, m)
		for _, x := range m.Entries {
			forgot := house{h.x, newHouse().l}
			for _, s := range h.l.Signs() {
				if s != x.Sign {
					forgot.l.Sign(s.Key, s.Digest)
				}
			}
			forgot.check(t, false, c.f, m)
		}

		fresh := newHouse() // where nothing but the first entry's empty batch is not learnt, but its vote is
		l := append(fresh.plain(3, upTo(c.big-1)...), fresh.change(3, c.big-1, api.Cert{}, fresh.ready(c, 1, 2, fresh.batch(1))))
		n := api.Msg{Kind: api.MsNewView, From: c.primary(3), View: 3, Changes: l}
		for d := range api.Digest(fresh.x.Len() + 6) {
			x := normal(n)
			x.Entries = []api.Entry{{View: 3, Seq: 1, Sign: fresh.sign(x.From, 2, 3, 1, d)}, fresh.entry(x.From, 3, 2, l[c.big-1].Above[0].Batch)}
			fresh.check(t, false, c.f, fresh.sealed(x))
		}
		fresh.check(t, true, c.f, fresh.newOf(c, 3, l...))
	}
}

// P16.4: each number, text and list within a new view turned alone: as it is, and sealed anew by its sender, which mends few of them.
func TestCheckTurned(t *testing.T) {
	c := clusters()[0]
	h := newHouse()
	good := h.newOf(c, 3, h.change(3, 0, h.at(c, 4)), h.change(3, 1, api.Cert{}, h.ready(c, 2, 6, h.batch(1))), h.change(3, 3, api.Cert{}, h.ready(c, 0, 6, nil)))
	h.check(t, true, c.f, good)
	mended := 0
	for _, m := range turned(good) {
		h.check(t, same(m, good), c.f, m)
		m = h.sealed(m)
		want := h.rightNew(c.f, m)
		h.check(t, want, c.f, m)
		if want {
			mended++
		}
		if !want && len(m.Changes) == 3 { // and with its view-changes signed anew
			for i, x := range m.Changes {
				m.Changes[i] = h.signed(x)
			}
			m = h.sealed(m)
			h.check(t, h.rightNew(c.f, m), c.f, m)
		}
	}
	enough(t, "mended by its sender", mended, 5)
}

// P16.4: new views of any view-changes, with entries now and then changed, held against the chapter's words.
func TestCheckAny(t *testing.T) {
	for _, c := range clusters() {
		yes, no := 0, 0
		dice := rand.New(rand.NewSource(int64(c.f)))
		h := newHouse()
		for range 150 {
			view := 1 + dice.Int63n(6)
			var l []api.Change
			for k := range c.brokers {
				if dice.Intn(7) > 0 {
					l = append(l, h.anyChange(dice, c, view, k))
				}
			}
			m := h.newOf(c, view, l...)
			if n := len(m.Entries); n > 0 && dice.Intn(3) == 0 {
				i := dice.Intn(n)
				x := m.Entries[i]
				m.Entries[i] = h.entry(m.From+dice.Intn(8)/7, x.View+dice.Int63n(8)/7, x.Seq+dice.Int63n(8)/7, h.batch(dice.Intn(3)))
				m = h.sealed(m)
			}
			want := h.rightNew(c.f, m)
			h.check(t, want, c.f, m)
			if want {
				yes++
			} else {
				no++
			}
		}
		enough(t, "new views", yes, 15)
		enough(t, "no new views", no, 15)
	}
}
