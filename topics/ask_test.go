package topics_test

import (
	"math"
	"slices"
	"testing"

	"bulla/api"
	"bulla/topics"
)

// asked is topics with something of each kind.
func asked(t *testing.T) *topics.Topics {
	return from(t, plain{
		topics: []entry{
			{name: "t", base: 5, records: []string{"a", "", "c"}, groups: []group{{"g", 0}, {"h", 8}}},
			{name: "u"},
		},
		clients: [8]said{0: {1, 0, 0}, 2: {9, uint64(api.ErrQuota), 0}, 7: {api.MaxNum, 0, 300}},
	}).x
}

// P7.2: Last of clients that there are and of others.
func TestLast(t *testing.T) {
	x := asked(t)
	for _, l := range []struct {
		client int
		time   int64
		res    api.Result
	}{
		{0, 1, okay(0)}, {1, 0, okay(0)}, {2, 9, bad(api.ErrQuota)}, {6, 0, okay(0)}, {7, api.MaxNum, okay(300)},
		{-1, 0, okay(0)}, {8, 0, okay(0)}, {math.MinInt, 0, okay(0)}, {math.MaxInt, 0, okay(0)}, {263, 0, okay(0)},
	} {
		if time, res := x.Last(l.client); time != l.time || res != l.res {
			t.Errorf("Last(%d) = %d, %+v, want %d, %+v", l.client, time, res, l.time, l.res)
		}
	}
}

// P7.2: names rise byte by byte, in whichever order they come.
func TestNames(t *testing.T) {
	if l := topics.New().Names(); len(l) != 0 {
		t.Errorf("Names of no topics: %q", l)
	}
	want := []string{"B", "a", "a!", "aa", "z", "é", "\uff61", "\U00010000"} // the last two stand the other way round in UTF-16
	for first := range want {
		b, g := start(t), start(t)
		g.do(create("t"), okay(0))
		for i := range want {
			name := want[(first+3*i)%len(want)]
			b.do(create(name), okay(0))
			g.do(commit("t", name, 0), okay(0))
		}
		if l := b.x.Names(); !slices.Equal(l, want) {
			t.Errorf("Names = %q", l)
		}
		if l := g.x.Groups("t"); !slices.Equal(l, want) {
			t.Errorf("Groups = %q", l)
		}
		b.same()
		g.same()
	}
}

// P7.2: Bounds, Get, Committed and Groups of what is there and what is not.
func TestAsks(t *testing.T) {
	x := asked(t)
	for _, b := range []struct {
		topic      string
		base, next int64
		e          api.Errno
	}{{"t", 5, 8, api.OK}, {"u", 0, 0, api.OK}, {"v", 0, 0, api.ErrNone}, {"", 0, 0, api.ErrNone}, {"T", 0, 0, api.ErrNone}, {"g", 0, 0, api.ErrNone}, {"\xff", 0, 0, api.ErrNone}} {
		if base, next, e := x.Bounds(b.topic); base != b.base || next != b.next || e != b.e {
			t.Errorf("Bounds(%q) = %d, %d, %d", b.topic, base, next, e)
		}
	}
	for _, g := range []struct {
		topic  string
		offset int64
		record string
		e      api.Errno
	}{
		{"t", 4, "", api.ErrOffset}, {"t", 5, "a", api.OK}, {"t", 6, "", api.OK}, {"t", 7, "c", api.OK}, {"t", 8, "", api.ErrOffset},
		{"t", 0, "", api.ErrOffset}, {"t", -1, "", api.ErrOffset}, {"t", math.MinInt64, "", api.ErrOffset}, {"t", math.MaxInt64, "", api.ErrOffset}, {"t", math.MinInt64 + 5, "", api.ErrOffset},
		{"u", 0, "", api.ErrOffset}, {"v", 0, "", api.ErrNone}, {"", 5, "", api.ErrNone},
	} {
		if r, e := x.Get(g.topic, g.offset); string(r) != g.record || e != g.e || e != api.OK && r != nil {
			t.Errorf("Get(%q, %d) = %q, %d", g.topic, g.offset, r, e)
		}
	}
	for _, c := range []struct {
		topic, group string
		offset       int64
		e            api.Errno
	}{{"t", "g", 0, api.OK}, {"t", "h", 8, api.OK}, {"t", "i", 0, api.ErrNone}, {"t", "", 0, api.ErrNone}, {"t", "t", 0, api.ErrNone}, {"u", "g", 0, api.ErrNone}, {"v", "g", 0, api.ErrNone}, {"", "", 0, api.ErrNone}} {
		if n, e := x.Committed(c.topic, c.group); n != c.offset || e != c.e {
			t.Errorf("Committed(%q, %q) = %d, %d", c.topic, c.group, n, e)
		}
	}
	if l := x.Groups("t"); !slices.Equal(l, []string{"g", "h"}) {
		t.Errorf("Groups(t) = %q", l)
	}
	for _, topic := range []string{"u", "v", ""} {
		if l := x.Groups(topic); len(l) != 0 {
			t.Errorf("Groups(%q) = %q", topic, l)
		}
	}
}

// told is what an iterator tells, up to n.
func told(all func(func(int64, api.Record) bool), n int) ([]int64, []string) {
	var offsets []int64
	var records []string
	for offset, r := range all {
		offsets = append(offsets, offset)
		records = append(records, string(r))
		if len(offsets) == n {
			break
		}
	}
	return offsets, records
}

// P7.2: All goes through what is there, may end early, and goes again.
func TestAll(t *testing.T) {
	x := asked(t)
	all := x.All("t")
	for n := 1; n <= 4; n++ {
		m := min(n, 3)
		offsets, records := told(all, n)
		if !slices.Equal(offsets, []int64{5, 6, 7}[:m]) || !slices.Equal(records, []string{"a", "", "c"}[:m]) {
			t.Errorf("up to %d: %d, %q", n, offsets, records)
		}
	}
	n := 0
	for a := range all {
		for b := range all {
			if a >= 5 && b >= 5 {
				n++
			}
		}
	}
	if n != 9 {
		t.Errorf("one loop within another one: %d times", n)
	}
	for _, topic := range []string{"u", "v", "", "\xff"} {
		if offsets, _ := told(x.All(topic), 9); len(offsets) > 0 {
			t.Errorf("All(%q) tells %d", topic, offsets)
		}
	}
}

// R3: an iterator tells what was there when it was asked for.
func TestAllStays(t *testing.T) {
	b := start(t)
	none := b.x.All("t")
	b.do(create("t"), okay(0))
	empty := b.x.All("t")
	b.do(publish("t", "a", "b", "c"), okay(0))
	three := b.x.All("t")
	b.do(publish("t", "d"), okay(3))
	four := b.x.All("t")
	b.do(trim("t", 2), okay(2))
	two := b.x.All("t")
	b.do(publish("t", "e", "f"), okay(4))
	b.do(trim("t", 6), okay(6))
	b.do(publish("t", "g"), okay(6))
	for _, x := range []struct {
		all   func(func(int64, api.Record) bool)
		first int64
		want  []string
	}{{none, 0, nil}, {empty, 0, nil}, {three, 0, []string{"a", "b", "c"}}, {four, 0, []string{"a", "b", "c", "d"}}, {two, 2, []string{"c", "d"}}} {
		offsets, records := told(x.all, 99)
		if !slices.Equal(records, x.want) || len(offsets) > 0 && offsets[0] != x.first {
			t.Errorf("%d, %q, want %q", offsets, records, x.want)
		}
	}
}

// R3: what is done within the loop is not told there.
func TestAllWhileDone(t *testing.T) {
	b := start(t)
	b.do(create("t"), okay(0))
	b.do(publish("t", "a", "b", "c"), okay(0))
	n := int64(0)
	for offset, r := range b.x.All("t") {
		if offset != n || string(r) != []string{"a", "b", "c"}[n] {
			t.Errorf("%d, %q at %d", offset, r, n)
		}
		n++
		b.do(publish("t", "d"), okay(2+n))
		b.do(trim("t", 1+n), okay(1+n))
	}
	if n != 3 {
		t.Errorf("%d records were told", n)
	}
	b.same()
}
