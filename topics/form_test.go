package topics_test

import (
	"bytes"
	"encoding/binary"
	"math"
	"math/rand"
	"slices"
	"strings"
	"testing"

	"bulla/api"
	"bulla/codec"
	"bulla/ideal"
	"bulla/op"
	"bulla/topics"
)

// noClients is the bytes of clients that have asked for nothing.
var noClients = make([]byte, 3*api.MaxClients)

// P7.3: some topics' bytes, written out.
func TestBytes(t *testing.T) {
	if b := topics.New().Bytes(); !bytes.Equal(b, append([]byte{0}, noClients...)) {
		t.Errorf("Bytes of no topics: %v", b)
	}
	b := start(t)
	b.do(create("u"), okay(0))
	b.do(create("t"), okay(0))
	b.do(publish("t", "x", "", "yz"), okay(0))
	b.do(trim("t", 1), okay(1))
	b.do(commit("t", "h", 3), okay(3))
	b.do(commit("t", "é", 0), okay(0))
	b.do(commit("t", "g", 2), okay(2))
	b.do(commit("t", "g", 1), bad(api.ErrOffset))
	b.apply(api.Request{Client: 7, Time: 300, Op: publish("u", "x")})
	want := []byte{
		2,
		1, 't', 1, 2, 0, 2, 'y', 'z', 3, 1, 'g', 2, 1, 'h', 3, 2, 195, 169, 0,
		1, 'u', 0, 1, 1, 'x', 0,
		0, 0, 0, 0, 0, 0, 0, 0, 0, 8, 72, 0, 0, 0, 0, 0, 0, 0, 0, 0, 0, 172, 2, 0, 0,
	}
	if f := b.x.Bytes(); !bytes.Equal(f, want) {
		t.Errorf("Bytes = %v, want %v", f, want)
	}
	if x, e := topics.Parse(want); e != api.OK || !bytes.Equal(x.Bytes(), want) {
		t.Errorf("Parse: %d", e)
	}
}

// P7.3, P7.5: topics of every kind there and back.
func TestThereAndBack(t *testing.T) {
	for _, p := range some() {
		from(t, p).same()
	}
}

// refused tells where bytes are not refused.
func refused(t *testing.T, b []byte, why string) {
	t.Helper()
	if x, e := topics.Parse(b); e != api.ErrTopics || x != nil {
		t.Errorf("%s: Parse(%v) = %v, %d", why, b, x, e)
	}
}

// P7.3: bytes that are cut short at every place (long ones at many), and bytes with more behind them.
func TestCut(t *testing.T) {
	refused(t, nil, "nil")
	refused(t, []byte{}, "empty")
	for _, p := range some() {
		b := p.form()
		for n := 0; n < len(b); n += 1 + len(b)/2000 {
			refused(t, b[:n], "cut")
		}
		refused(t, b[:len(b)-1], "cut")
		for _, more := range [][]byte{{0}, {1}, {255}, noClients, b} {
			refused(t, slices.Concat(b, more), "more")
		}
	}
}

// numbers are where numbers begin in the bytes of topics, and behind which byte each ends.
func numbers(b []byte) [][2]int {
	var l [][2]int
	at := 0
	next := func() int {
		n, k := binary.Uvarint(b[at:])
		l = append(l, [2]int{at, at + k})
		at += k
		return int(n)
	}
	skip := func() { at += next() }
	for range next() {
		skip()
		next()
		for range next() {
			skip()
		}
		for range next() {
			skip()
			next()
		}
	}
	for at < len(b) {
		next()
	}
	return l
}

// P7.3: numbers of a form that is not the one form, and of one that is far too great.
func TestNumbers(t *testing.T) {
	great := num(nil, math.MaxUint64)
	for _, p := range some()[:9] {
		b := p.form()
		for _, at := range numbers(b) {
			long := bytes.Clone(b[at[0]:at[1]])
			long[len(long)-1] |= 128
			for _, n := range [][]byte{append(long, 0), append(bytes.Clone(long), 128, 0), great, bytes.Repeat([]byte{255}, 10), num(nil, 1<<63), num(nil, api.MaxNum+1)} {
				refused(t, slices.Concat(b[:at[0]], n, b[at[1]:]), "number")
			}
		}
	}
}

// P7.3: what may be, at its edges, and what may not.
func TestMayBe(t *testing.T) {
	topic := func(x entry) plain { return plain{topics: []entry{x}} }
	named := func(l ...string) plain {
		var p plain
		for _, name := range l {
			p.topics = append(p.topics, entry{name: name})
		}
		return p
	}
	grouped := func(l ...string) plain {
		x := entry{name: "t", records: []string{"x"}}
		for i, name := range l {
			x.groups = append(x.groups, group{name, uint64(i % 2)})
		}
		return topic(x)
	}
	client := func(c said) plain { return plain{clients: [8]said{5: c}} }
	for _, x := range []struct {
		p  plain
		is bool
	}{
		{named(rising(8, "t")...), true}, {named(rising(9, "t")...), false},
		{named(""), false}, {named("a/b"), false}, {named("a b"), false}, {named("\xff"), false}, {named("sixteen-letters-"), true}, {named("seventeen-letters"), false}, {named(wide), true}, {named(wide + "x"), false},
		{named("a", ""), false}, {named("", "a"), false}, {named("a", "a/b"), false}, {named(strings.Repeat("x", 300)), false},
		{named("a", "b"), true}, {named("b", "a"), false}, {named("a", "a"), false}, {named("a", "b", "b"), false}, {named("a", "c", "b"), false}, {named("a", "aa"), true}, {named("aa", "a"), false},
		{named("\uff61", "\U00010000"), true}, {named("\U00010000", "\uff61"), false}, {named("B", "a"), true}, {named("a", "B"), false},

		{grouped(rising(8, "g")...), true}, {grouped(rising(9, "g")...), false},
		{grouped(""), false}, {grouped("a/b"), false}, {grouped("\xff"), false}, {grouped("sixteen-letters-"), true}, {grouped("seventeen-letters"), false}, {grouped(wide), true}, {grouped(wide + "x"), false},
		{grouped("a", ""), false}, {grouped("a", "b"), true}, {grouped("b", "a"), false}, {grouped("a", "a"), false}, {grouped("a", "b", "b"), false}, {grouped("a", "c", "b"), false}, {grouped("t"), true},
		{plain{topics: []entry{{name: "a", groups: []group{{"z", 0}}}, {name: "b", groups: []group{{"a", 0}}}}}, true},

		{topic(entry{name: "t", records: many(64, 1)}), true}, {topic(entry{name: "t", records: many(65, 1)}), false}, {topic(entry{name: "t", records: make([]string, 65)}), false},
		{topic(entry{name: "t", records: many(1, 64)}), true}, {topic(entry{name: "t", records: []string{strings.Repeat("x", 65)}}), false}, {topic(entry{name: "t", records: []string{"", strings.Repeat("x", 65)}}), false},

		{topic(entry{name: "t", base: api.MaxNum}), true}, {topic(entry{name: "t", base: api.MaxNum + 1}), false}, {topic(entry{name: "t", base: math.MaxUint64}), false}, {topic(entry{name: "t", base: 1 << 63}), false},
		{topic(entry{name: "t", base: api.MaxNum - 1, records: []string{"x"}}), true}, {topic(entry{name: "t", base: api.MaxNum, records: []string{"x"}}), false},
		{topic(entry{name: "t", base: api.MaxNum - 63, records: many(64, 1)}), false}, {topic(entry{name: "t", base: api.MaxNum - 64, records: many(64, 1)}), true},

		{topic(entry{name: "t", groups: []group{{"g", 0}}}), true}, {topic(entry{name: "t", groups: []group{{"g", 1}}}), false},
		{topic(entry{name: "t", base: 5, records: []string{"x"}, groups: []group{{"g", 0}, {"h", 4}, {"i", 6}}}), true}, {topic(entry{name: "t", base: 5, records: []string{"x"}, groups: []group{{"g", 7}}}), false},
		{topic(entry{name: "t", base: 5, groups: []group{{"g", 5}}}), true}, {topic(entry{name: "t", base: 5, groups: []group{{"g", 6}}}), false}, {topic(entry{name: "t", base: 5, groups: []group{{"g", 5}, {"h", 6}}}), false},
		{topic(entry{name: "t", groups: []group{{"g", math.MaxUint64}}}), false}, {topic(entry{name: "t", base: api.MaxNum, groups: []group{{"g", api.MaxNum}}}), true}, {topic(entry{name: "t", base: api.MaxNum, groups: []group{{"g", api.MaxNum + 1}}}), false},

		{client(said{0, 0, 0}), true}, {client(said{1, 0, 0}), true}, {client(said{api.MaxNum, 0, 0}), true}, {client(said{api.MaxNum + 1, 0, 0}), false}, {client(said{math.MaxUint64, 0, 0}), false},
		{client(said{1, 0, 1}), true}, {client(said{1, 0, api.MaxNum}), true}, {client(said{1, 0, api.MaxNum + 1}), false}, {client(said{1, 0, math.MaxUint64}), false},
		{client(said{0, 0, 1}), false}, {client(said{0, 4, 0}), false}, {client(said{0, 4, 1}), false}, {client(said{0, 72, 0}), false},
		{client(said{1, 4, 1}), false}, {client(said{1, 72, 1}), false}, {client(said{1, 60, api.MaxNum}), false},
		{client(said{1, math.MaxUint64, 0}), false}, {client(said{1, 1 << 32, 0}), false}, {client(said{1, 1<<32 + 4, 0}), false},
	} {
		b := x.p.form()
		if !x.is {
			refused(t, b, "what may not be")
		} else if y, e := topics.Parse(b); e != api.OK || !bytes.Equal(y.Bytes(), b) {
			t.Errorf("Parse of %+v: %d", x.p, e)
		}
	}
}

// P7.3: each error as an answer's, of each client, with an Offset and without, with a time and without.
func TestAnswers(t *testing.T) {
	may := []api.Errno{api.OK, api.ErrNone, api.ErrTwice, api.ErrFull, api.ErrQuota, api.ErrOffset, api.ErrOp, api.ErrName, api.ErrRecord}
	for i := range api.MaxClients {
		for err := range uint64(300) {
			for _, time := range []uint64{0, 1, api.MaxNum} {
				for _, offset := range []uint64{0, 1, api.MaxNum} {
					var p plain
					p.clients[i] = said{time, err, offset}
					is := slices.Contains(may, api.Errno(err)) && (err == 0 || offset == 0) && (time > 0 || err == 0 && offset == 0)
					if x, e := topics.Parse(p.form()); (e == api.OK) != is || (x != nil) != is || !is && e != api.ErrTopics {
						t.Fatalf("Parse of the client %d with %+v: %d, want %v", i, p.clients[i], e, is)
					}
				}
			}
		}
	}
}

// P7.3: too many of each promise more than there is room for, also where nothing comes behind them.
func TestManyPromised(t *testing.T) {
	for _, n := range []uint64{9, 65, 1 << 20, api.MaxNum, math.MaxUint64} {
		refused(t, num(nil, n), "topics")
		refused(t, num([]byte{1, 1, 't', 0}, n), "records")
		refused(t, num([]byte{1, 1, 't', 0, 0}, n), "groups")
		refused(t, num([]byte{1}, n), "bytes of a name")
		refused(t, num([]byte{1, 1, 't', 0, 1}, n), "bytes of a record")
	}
}

// sound tells where topics that Parse took may not be, by what they say.
func sound(t *testing.T, x *topics.Topics) {
	t.Helper()
	l := x.Names()
	if len(l) > 8 {
		t.Fatalf("%d topics", len(l))
	}
	for _, name := range l {
		base, next, _ := x.Bounds(name)
		groups := x.Groups(name)
		if !op.Name(name) || base < 0 || next > 1<<53 || next-base > 64 || len(groups) > 8 {
			t.Fatalf("topic %q from %d to %d with %d groups", name, base, next, len(groups))
		}
		for offset, r := range x.All(name) {
			if len(r) > 64 || offset < base || offset >= next {
				t.Fatalf("record %d of %d bytes", offset, len(r))
			}
		}
		for _, g := range groups {
			if n, e := x.Committed(name, g); e != api.OK || !op.Name(g) || n < 0 || n > next {
				t.Fatalf("group %q at %d, %d", g, n, e)
			}
		}
	}
	for i := range api.MaxClients {
		time, res := x.Last(i)
		if time < 0 || time > 1<<53 || res.Offset < 0 || res.Offset > 1<<53 || res.Err != api.OK && res.Offset != 0 || time == 0 && res != okay(0) {
			t.Fatalf("client %d: %d, %+v", i, time, res)
		}
	}
}

// P7.3: what Parse takes has these bytes and may be: bytes of topics of which some were turned, left out or put in.
func TestParseTurned(t *testing.T) {
	dice := rand.New(rand.NewSource(1))
	l := some()
	taken := 0
	for range 100000 {
		b := l[dice.Intn(len(l)-1)].form()
		for range 1 + dice.Intn(3) {
			i := dice.Intn(min(len(b), 60))
			switch dice.Intn(3) {
			case 0:
				b[i] ^= 1 << dice.Intn(8)
			case 1:
				b = slices.Insert(b, i, byte(dice.Intn(256)))
			case 2:
				b = slices.Delete(b, i, i+1)
			}
		}
		first := bytes.Clone(b)
		x, e := topics.Parse(b)
		if !bytes.Equal(b, first) {
			t.Fatalf("Parse wrote to %v", first)
		}
		if e != api.OK {
			if e != api.ErrTopics || x != nil {
				t.Fatalf("Parse(%v) = %v, %d", b, x, e)
			}
			continue
		}
		taken++
		sound(t, x)
		if !bytes.Equal(x.Bytes(), b) {
			t.Fatalf("Parse took %v, of which the bytes are %v", b, x.Bytes())
		}
	}
	if taken < 1000 {
		t.Errorf("only %d were taken", taken)
	}
}

// P7.3: Digest is the table's number of Bytes.
func TestDigest(t *testing.T) {
	table := ideal.NewTable()
	table.Sum([]byte("ahead"))
	for i, p := range some() {
		x := from(t, p).x
		d := x.Digest(table)
		if want, known := table.Look(p.form()); !known || d != want || d != api.Digest(i+2) || x.Digest(table) != d || x.Clone().Digest(table) != d {
			t.Errorf("Digest of %+v = %d", p, d)
		}
	}
	x := topics.New()
	if d := x.Digest(nil); d != 0 {
		t.Errorf("Digest of no table: %d", d)
	}
	if d := x.Digest(new(ideal.Table)); d != 0 {
		t.Errorf("Digest of a table that no call made: %d", d)
	}
	if table.Len() != len(some())+1 {
		t.Errorf("the table has %d byte strings", table.Len())
	}
}

// P7.3: a placed record's bytes.
func TestPlacedBytes(t *testing.T) {
	for _, x := range []struct {
		p    api.Placed
		want []byte
	}{
		{api.Placed{}, []byte{0, 0, 0}},
		{api.Placed{Record: api.Record{}}, []byte{0, 0, 0}},
		{api.Placed{Topic: "t", Offset: 300, Record: api.Record{9, 8}}, []byte{1, 't', 172, 2, 2, 9, 8}},
		{api.Placed{Topic: "é", Offset: 0, Record: api.Record{128}}, []byte{2, 195, 169, 0, 1, 128}},
		{api.Placed{Topic: "t", Offset: -1, Record: api.Record{9}}, []byte{1, 't', 0, 1, 9}},
		{api.Placed{Topic: "t", Offset: math.MinInt64}, []byte{1, 't', 0, 0}},
		{api.Placed{Topic: "a/\xff", Offset: api.MaxNum}, []byte{3, 'a', '/', 255, 128, 128, 128, 128, 128, 128, 128, 16, 0}},
		{api.Placed{Offset: math.MaxInt64}, []byte{0, 255, 255, 255, 255, 255, 255, 255, 255, 127, 0}},
		{api.Placed{Record: make(api.Record, 200)}, append([]byte{0, 0, 200, 1}, make([]byte, 200)...)},
	} {
		if b := topics.PlacedBytes(x.p); !bytes.Equal(b, x.want) {
			t.Errorf("PlacedBytes(%+v) = %v, want %v", x.p, b, x.want)
		}
		r := codec.Read(topics.PlacedBytes(x.p))
		topic, offset, record := r.Bytes(1000), r.Num(math.MaxInt64), r.Bytes(1000)
		if string(topic) != x.p.Topic || int64(offset) != max(x.p.Offset, 0) || !bytes.Equal(record, x.p.Record) || r.Done() != api.OK {
			t.Errorf("PlacedBytes(%+v) is read as %q, %d, %q, %d", x.p, topic, offset, record, r.Done())
		}
	}
}

// THE BOUND: bytes are written and read in memory that is near-linear in how many they are.
func TestLinear(t *testing.T) {
	x := from(t, fullest()).x
	b := x.Bytes()
	if n := allocated(func() { x.Bytes() }); n > 20*len(b) {
		t.Errorf("Bytes of %d bytes takes %d", len(b), n)
	}
	if n := allocated(func() { topics.Parse(b) }); n > 20*len(b) {
		t.Errorf("Parse of %d bytes takes %d", len(b), n)
	}
	long := make([]byte, 1<<20)
	if n := allocated(func() { topics.Parse(long) }); n > 4*len(long) {
		t.Errorf("Parse of %d bytes takes %d", len(long), n)
	}
	if n := allocated(func() { topics.PlacedBytes(api.Placed{Topic: string(long), Record: long}) }); n > 20*len(long) {
		t.Errorf("PlacedBytes of %d bytes takes %d", 2*len(long), n)
	}
}
