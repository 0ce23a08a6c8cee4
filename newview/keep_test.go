package newview_test

import (
	"reflect"
	"testing"

	"bulla/api"
	"bulla/newview"
)

// R3: what Select was handed is not what it tells, and what is written to either reaches the other nowhere.
func TestSelectKeepsOff(t *testing.T) {
	for _, c := range clusters() {
		h := newHouse()
		l, written := roomy(h.rich(c, 3))
		first := normal(l)
		cert, entries, e := newview.Select(c.f, 3, l...)
		want := normal(answer{cert, entries, e})
		again := choose(t, c.f, 3, l...)
		if written() || !same(l, first) || len(entries) != 5 {
			t.Fatalf("f %d: Select has written to what it was handed", c.f)
		}
		scribble(&l)
		if !same(answer{cert, entries, e}, want) {
			t.Fatalf("f %d: what is written to the view-changes is seen in %+v", c.f, entries)
		}
		scribble(&cert)
		scribble(&entries)
		if !same(again, want) {
			t.Fatalf("f %d: two answers share memory", c.f)
		}
		l = normal(first)
		cert, entries, _ = newview.Select(c.f, 3, l...)
		scribble(&cert)
		scribble(&entries)
		if !same(l, first) {
			t.Fatalf("f %d: what is written to what was told is seen in the view-changes", c.f)
		}
		if a := choose(t, c.f, 3, l...); !same(a, want) {
			t.Fatalf("f %d: %+v, then %+v", c.f, want, a)
		}
	}
}

// apart tells where two lists within x, which is a pointer, share memory: what is written to one place is seen in another one.
func apart[T any](t *testing.T, x *T) {
	t.Helper()
	for i, v := range knobs(x) {
		if v.Kind() == reflect.Slice {
			continue
		}
		first := normal(*x)
		turns(v)[0]()
		was := knobs(&first)
		for j, w := range knobs(x) {
			if w.Kind() != reflect.Slice && w.Interface() != was[j].Interface() != (i == j) {
				t.Fatalf("what is written to the place %d of %+v is seen in %d", i, first, j)
			}
		}
	}
}

// R3: one batch that is told under several numbers, by lists that share memory, is in no memory twice behind it.
func TestAnswersApart(t *testing.T) {
	for _, c := range clusters() {
		h := newHouse()
		b := h.batch(4)
		var above []api.Prepared
		for seq := int64(5); seq <= 8; seq++ {
			above = append(above, h.ready(c, 1, seq, b))
		}
		var l []api.Change
		for k := range c.big {
			l = append(l, h.change(3, k, h.at(c, 4), above...))
		}
		cert, entries, _ := newview.Select(c.f, 3, l...)
		apart(t, &cert)
		apart(t, &entries)
		m := h.makes(t, c, 3, l...)
		_, told, is := newview.Check(h.x, h.l, c.f, m)
		if !is || len(told) != 4 {
			t.Fatalf("f %d: %+v", c.f, told)
		}
		apart(t, &told)
		if c.f == 1 {
			x := m
			apart(t, &x)
		}
	}
}

// R3: what Make was handed is not what it answers.
func TestMakeKeepsOff(t *testing.T) {
	for _, c := range clusters() {
		h := newHouse()
		l, written := roomy(h.rich(c, 3))
		first := normal(l)
		m := h.makes(t, c, 3, l...)
		want := normal(m)
		again := h.makes(t, c, 3, l...)
		if written() || !same(l, first) {
			t.Fatalf("f %d: Make has written to what it was handed", c.f)
		}
		scribble(&l)
		if !same(m, want) {
			t.Fatalf("f %d: what is written to the view-changes is seen in %+v", c.f, m)
		}
		h.check(t, true, c.f, m)
		scribble(&m)
		if !same(again, want) {
			t.Fatalf("f %d: two answers share memory", c.f)
		}
		h.check(t, true, c.f, again)
		l = normal(first)
		m = h.makes(t, c, 3, l...)
		scribble(&m)
		if !same(l, first) {
			t.Fatalf("f %d: what is written to the answer is seen in the view-changes", c.f)
		}
		if m := h.makes(t, c, 3, l...); !same(m, want) {
			t.Fatalf("f %d: %+v, then %+v", c.f, want, m)
		}
	}
}

// R3: what Check was handed is not what it tells; nor is anything kept of what Valid was handed.
func TestCheckKeepsOff(t *testing.T) {
	for _, c := range clusters() {
		h := newHouse()
		m, written := roomy(h.goodNew(c, 3))
		first := normal(m)
		cert, entries, is := newview.Check(h.x, h.l, c.f, m)
		want := normal(answer{Cert: cert, Entries: entries})
		if !is || written() || !same(m, first) {
			t.Fatalf("f %d: Check has written to what it was handed, or refuses it", c.f)
		}
		scribble(&m)
		if !same(answer{Cert: cert, Entries: entries}, want) {
			t.Fatalf("f %d: what is written to the message is seen in %+v", c.f, entries)
		}
		h.check(t, false, c.f, m)
		m = normal(first)
		cert, entries, _ = newview.Check(h.x, h.l, c.f, m)
		scribble(&cert)
		scribble(&entries)
		if !same(m, first) {
			t.Fatalf("f %d: what is written to what was told is seen in the message", c.f)
		}
		h.check(t, true, c.f, m)

		x, written := roomy(h.rich(c, 3)[1])
		if !newview.Valid(h.x, h.l, c.f, 3, x) || written() {
			t.Fatalf("f %d: Valid has written to what it was handed, or refuses it", c.f)
		}
		y := normal(x)
		scribble(&x)
		h.valid(t, false, c.f, 3, x)
		h.valid(t, true, c.f, 3, y)
	}
}
