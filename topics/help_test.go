package topics_test

import (
	"bytes"
	"encoding/binary"
	"maps"
	"math/rand"
	"runtime"
	"slices"
	"strings"
	"testing"

	"bulla/api"
	"bulla/op"
	"bulla/topics"
)

// entry is a topic told plainly, with numbers that may be too great, and groups in any order.
type entry struct {
	name    string
	base    uint64
	records []string
	groups  []group
}

type group struct {
	name   string
	offset uint64
}

// said is what a client was answered last.
type said struct {
	time, err, offset uint64
}

// plain is topics told plainly, such as may be and others.
type plain struct {
	topics  []entry
	clients [8]said
}

func (x entry) next() uint64 {
	return x.base + uint64(len(x.records))
}

func num(b []byte, n uint64) []byte {
	return binary.AppendUvarint(b, n)
}

func text(b []byte, s string) []byte {
	return append(num(b, uint64(len(s))), s...)
}

// form is the bytes of what is told, by the chapter's words and without the program's help.
func (p plain) form() []byte {
	b := num(nil, uint64(len(p.topics)))
	for _, x := range p.topics {
		b = num(text(b, x.name), x.base)
		b = num(b, uint64(len(x.records)))
		for _, r := range x.records {
			b = text(b, r)
		}
		b = num(b, uint64(len(x.groups)))
		for _, g := range x.groups {
			b = num(text(b, g.name), g.offset)
		}
	}
	for _, c := range p.clients {
		b = num(num(num(b, c.time), c.err), c.offset)
	}
	return b
}

// model is the machine told as plainly as can be.
type model struct {
	topics  map[string]entry
	clients [8]said
}

func newModel() *model {
	return &model{topics: map[string]entry{}}
}

func (m *model) plain() plain {
	p := plain{clients: m.clients}
	for _, name := range slices.Sorted(maps.Keys(m.topics)) {
		p.topics = append(p.topics, m.topics[name])
	}
	return p
}

// modelOf is the machine that holds what is told.
func modelOf(p plain) *model {
	m := newModel()
	m.clients = p.clients
	for _, x := range p.topics {
		m.topics[x.name] = x
	}
	return m
}

func (m *model) clone() *model {
	return &model{topics: maps.Clone(m.topics), clients: m.clients}
}

// apply is what Apply has to come to. Entries are put together anew, so that no model sees what another one does.
func (m *model) apply(r api.Request) (api.Result, []api.Placed, bool) {
	if r.Client < 0 || r.Client > 7 || r.Time < 1 || r.Time > 1<<53 {
		return api.Result{Err: api.ErrArg}, nil, false
	}
	c := m.clients[r.Client]
	switch time := uint64(r.Time); {
	case time < c.time:
		return api.Result{Err: api.ErrPast}, nil, false
	case time == c.time:
		return api.Result{Err: api.Errno(c.err), Offset: int64(c.offset)}, nil, false
	}
	res, placed := m.do(r.Op)
	m.clients[r.Client] = said{uint64(r.Time), uint64(res.Err), uint64(res.Offset)}
	return res, placed, true
}

func (m *model) do(o api.Op) (api.Result, []api.Placed) {
	if e := op.Check(o); e != api.OK {
		return api.Result{Err: e}, nil
	}
	x, there := m.topics[o.Topic]
	if o.Kind == api.OpNone {
		return api.Result{}, nil
	}
	if o.Kind == api.OpCreate {
		return api.Result{Err: m.create(o.Topic, there)}, nil
	}
	if !there {
		return api.Result{Err: api.ErrNone}, nil
	}
	if o.Kind == api.OpPublish {
		return m.publish(x, o.Records)
	}
	e := api.ErrOffset
	if o.Kind == api.OpCommit {
		e = m.commit(x, o.Group, o.Offset)
	} else if n := uint64(o.Offset); n >= x.base && n <= x.next() {
		x.records, x.base = slices.Clone(x.records[n-x.base:]), n
		m.topics[x.name] = x
		e = api.OK
	}
	if e != api.OK {
		return api.Result{Err: e}, nil
	}
	return api.Result{Offset: o.Offset}, nil
}

func (m *model) create(name string, there bool) api.Errno {
	switch {
	case there:
		return api.ErrTwice
	case len(m.topics) == 8:
		return api.ErrFull
	}
	m.topics[name] = entry{name: name}
	return api.OK
}

func (m *model) publish(x entry, l []api.Record) (api.Result, []api.Placed) {
	if len(x.records)+len(l) > 64 || x.next()+uint64(len(l)) > 1<<53 {
		return api.Result{Err: api.ErrQuota}, nil
	}
	first := int64(x.next())
	var placed []api.Placed
	x.records = slices.Clone(x.records)
	for i, r := range l {
		placed = append(placed, api.Placed{Topic: x.name, Offset: first + int64(i), Record: r})
		x.records = append(x.records, string(r))
	}
	m.topics[x.name] = x
	return api.Result{Offset: first}, placed
}

func (m *model) commit(x entry, name string, offset int64) api.Errno {
	last := uint64(0)
	i, there := slices.BinarySearchFunc(x.groups, name, func(g group, n string) int { return strings.Compare(g.name, n) })
	if there {
		last = x.groups[i].offset
	}
	switch n := uint64(offset); {
	case n < last || n > x.next():
		return api.ErrOffset
	case !there && len(x.groups) == 8:
		return api.ErrFull
	}
	x.groups = slices.Clone(x.groups)
	if !there {
		x.groups = slices.Insert(x.groups, i, group{})
	}
	x.groups[i] = group{name, uint64(offset)}
	m.topics[x.name] = x
	return api.OK
}

// Operations, in short.
func create(topic string) api.Op { return api.Op{Kind: api.OpCreate, Topic: topic} }

func publish(topic string, l ...string) api.Op {
	o := api.Op{Kind: api.OpPublish, Topic: topic}
	for _, s := range l {
		o.Records = append(o.Records, api.Record(s))
	}
	return o
}

func commit(topic, group string, offset int64) api.Op {
	return api.Op{Kind: api.OpCommit, Topic: topic, Group: group, Offset: offset}
}

func trim(topic string, offset int64) api.Op {
	return api.Op{Kind: api.OpTrim, Topic: topic, Offset: offset}
}

// okay and bad are results, in short.
func okay(offset int64) api.Result { return api.Result{Offset: offset} }

func bad(e api.Errno) api.Result { return api.Result{Err: e} }

func samePlaced(a, b []api.Placed) bool {
	return slices.EqualFunc(a, b, func(a, b api.Placed) bool {
		return a.Topic == b.Topic && a.Offset == b.Offset && bytes.Equal(a.Record, b.Record)
	})
}

// both is topics beside the model of them.
type both struct {
	t *testing.T
	x *topics.Topics
	m *model
}

func start(t *testing.T) both {
	return both{t, topics.New(), newModel()}
}

// from is the topics of what is told, which may be.
func from(t *testing.T, p plain) both {
	t.Helper()
	x, e := topics.Parse(p.form())
	if e != api.OK {
		t.Fatalf("Parse of %+v: %d", p, e)
	}
	return both{t, x, modelOf(p)}
}

// apply does a request at both, and tells where they do not come to the same.
func (b both) apply(r api.Request) (api.Result, bool) {
	b.t.Helper()
	res, placed, done := b.x.Apply(r)
	want, at, was := b.m.apply(r)
	if res != want || done != was || !samePlaced(placed, at) {
		b.t.Fatalf("Apply(%+v) = %+v, %+v, %v, want %+v, %+v, %v", r, res, placed, done, want, at, was)
	}
	return res, done
}

// do does an operation of the client 3 at its next time: the result is as the test says, too.
func (b both) do(o api.Op, want api.Result) {
	b.t.Helper()
	last, _ := b.x.Last(3)
	res, done := b.apply(api.Request{Client: 3, Time: last + 1, Op: o})
	if res != want || !done {
		b.t.Fatalf("%+v comes to %+v, %v, want %+v", o, res, done, want)
	}
}

// same tells where the topics and the model of them hold different things.
func (b both) same() {
	b.t.Helper()
	p := b.m.plain()
	if f := b.x.Bytes(); !bytes.Equal(f, p.form()) {
		b.t.Fatalf("Bytes = %v, want %v", f, p.form())
	}
	var names []string
	for _, x := range p.topics {
		names = append(names, x.name)
		b.sameTopic(x)
	}
	if l := b.x.Names(); !slices.Equal(l, names) {
		b.t.Fatalf("Names = %q, want %q", l, names)
	}
	for i, c := range p.clients {
		if time, res := b.x.Last(i); time != int64(c.time) || res != (api.Result{Err: api.Errno(c.err), Offset: int64(c.offset)}) {
			b.t.Fatalf("Last(%d) = %d, %+v, want %+v", i, time, res, c)
		}
	}
}

func (b both) sameTopic(x entry) {
	b.t.Helper()
	base, next, e := b.x.Bounds(x.name)
	if base != int64(x.base) || next != int64(x.next()) || e != api.OK {
		b.t.Fatalf("Bounds(%q) = %d, %d, %d, want %d, %d", x.name, base, next, e, x.base, x.next())
	}
	i := 0
	for offset, r := range b.x.All(x.name) {
		if i >= len(x.records) || offset != base+int64(i) || string(r) != x.records[i] {
			b.t.Fatalf("All(%q) tells %d, %q at place %d", x.name, offset, r, i)
		}
		if r, e := b.x.Get(x.name, offset); e != api.OK || string(r) != x.records[i] {
			b.t.Fatalf("Get(%q, %d) = %q, %d", x.name, offset, r, e)
		}
		i++
	}
	if i != len(x.records) {
		b.t.Fatalf("All(%q) tells %d records, want %d", x.name, i, len(x.records))
	}
	var names []string
	for _, g := range x.groups {
		names = append(names, g.name)
		if offset, e := b.x.Committed(x.name, g.name); offset != int64(g.offset) || e != api.OK {
			b.t.Fatalf("Committed(%q, %q) = %d, %d, want %d", x.name, g.name, offset, e, g.offset)
		}
	}
	if l := b.x.Groups(x.name); !slices.Equal(l, names) {
		b.t.Fatalf("Groups(%q) = %q, want %q", x.name, l, names)
	}
}

// rising is the letters from a on, n of them, behind what stands ahead.
func rising(n int, ahead string) []string {
	var l []string
	for i := range n {
		l = append(l, ahead+string(rune('a'+i)))
	}
	return l
}

// many is n records, each of so many bytes and unlike the others.
func many(n, each int) []string {
	var l []string
	for i := range n {
		l = append(l, (string(rune(33+i)) + strings.Repeat("z", 64))[:each])
	}
	return l
}

// wide is a name of as many bytes as one has at most, behind which no name of its length comes.
const wide = "\U0010fffd\U0010fffd\U0010fffd\U0010fffd\U0010fffd\U0010fffd\U0010fffd\U0010fffd\U0010fffd\U0010fffd\U0010fffd\U0010fffd\U0010fffd\U0010fffd\U0010fffd\U0010fffd"

// fullest is topics that hold as much as there may be of all.
func fullest() plain {
	var p plain
	for _, name := range append(rising(7, "topic-of-letter"), wide) {
		x := entry{name: name, base: 1<<53 - 64, records: many(64, 64)}
		for _, g := range append(rising(7, "group-of-letter"), wide) {
			x.groups = append(x.groups, group{g, 1 << 53})
		}
		p.topics = append(p.topics, x)
	}
	for i := range p.clients {
		p.clients[i] = said{1 << 53, 0, 1 << 53}
	}
	return p
}

// some is topics of many kinds, that may be.
func some() []plain {
	return []plain{
		{},
		{topics: []entry{{name: "t"}}},
		{topics: []entry{{name: "t", base: 300, records: []string{"", "ab", "\x00"}}}},
		{topics: []entry{{name: "t", base: 1 << 53, groups: []group{{"g", 0}, {"größe", 1 << 53}}}}},
		{topics: []entry{{name: "B"}, {name: "a", records: []string{"x"}, groups: []group{{"a", 1}}}, {name: "a~"}, {name: "é", base: 1}, {name: wide}}},
		{topics: []entry{{name: "t", base: 1<<53 - 2, records: []string{"x", "y"}, groups: []group{{"g", 1 << 53}}}}},
		{topics: []entry{{name: "t", records: many(64, 64)}, {name: "u", base: 128, records: many(64, 1)}}},
		{clients: [8]said{0: {1, 0, 0}, 3: {300, 72, 0}, 7: {1 << 53, 0, 1 << 53}}},
		{topics: []entry{{name: "t", base: 2, records: []string{"y"}, groups: []group{{"g", 2}}}}, clients: [8]said{2: {5, 0, 2}}},
		fullest(),
	}
}

// names are texts that are names, and some that are none.
func names() []string {
	return []string{"", "t", "u", "é", "a/b", "\xff", "sixteen-letters-", "seventeen-letters", wide, "v", "w", "x", "y", "z", "a"}
}

// anyOffset is a number at or beside an end of a topic, or somewhere.
func anyOffset(dice *rand.Rand, x entry) int64 {
	switch dice.Intn(4) {
	case 0:
		return int64(x.base) + int64(dice.Intn(4)) - 1
	case 1:
		return int64(x.next()) + int64(dice.Intn(4)) - 2
	case 2:
		return int64(x.base) + int64(dice.Intn(len(x.records)+1))
	}
	return int64(dice.Intn(12))
}

// anyOp is an operation, often one that may be.
func anyOp(dice *rand.Rand, m *model) api.Op {
	l := []string{"t", "u", "v"}
	if dice.Intn(6) == 0 {
		l = names()
	}
	name := l[dice.Intn(len(l))]
	offset := anyOffset(dice, m.topics[name])
	switch dice.Intn(24) {
	case 0, 1:
		return create(name)
	case 2, 3, 4, 5:
		return commit(name, names()[dice.Intn(len(names()))], offset)
	case 6, 7:
		return trim(name, offset)
	case 8:
		return api.Op{}
	case 9:
		return api.Op{Kind: dice.Intn(7) - 1, Topic: name, Group: name, Offset: offset - 1, Records: []api.Record{{1}}}
	case 10:
		return publish(name, many(dice.Intn(6), dice.Intn(66))...)
	}
	return publish(name, many(1+dice.Intn(4), dice.Intn(65))...)
}

// anyRequest is a request, most often at a time that is its client's next one in what is held.
func anyRequest(dice *rand.Rand, m *model) api.Request {
	r := api.Request{Client: dice.Intn(8), Op: anyOp(dice, m)}
	r.Time = int64(m.clients[r.Client].time) + 1
	switch dice.Intn(12) {
	case 0:
		r.Time += int64(dice.Intn(5)) - 3
	case 1:
		r.Client = dice.Intn(12) - 2
	}
	return r
}

// allocated is how many bytes of memory do takes.
func allocated(do func()) int {
	var a, b runtime.MemStats
	runtime.ReadMemStats(&a)
	do()
	runtime.ReadMemStats(&b)
	return int(b.TotalAlloc - a.TotalAlloc)
}
