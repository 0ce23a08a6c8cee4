package block_test

import (
	"bytes"
	"encoding/binary"
	"maps"
	"math"
	"math/rand"
	"runtime"
	"slices"
	"strconv"
	"strings"
	"sync"
	"testing"

	"bulla/api"
	"bulla/block"
	"bulla/ideal"
	"bulla/request"
	"bulla/topics"
)

const maxNum = 1 << 53

func num(b []byte, n uint64) []byte {
	return binary.AppendUvarint(b, n)
}

func text[T []byte | api.Record | string](b []byte, s T) []byte {
	return append(num(b, uint64(len(s))), s...)
}

// join is byte strings, one behind the other.
func join(l ...[]byte) []byte {
	return slices.Concat(l...)
}

// check is what Check has to say.
func check(h api.Header) api.Errno {
	if h.Seq < 0 || h.Seq > maxNum {
		return 90
	}
	for _, d := range []api.Digest{h.Prev, h.Batch, h.Root, h.State} {
		if d < 0 || d > maxNum {
			return 90
		}
	}
	return 0
}

// form is the bytes of a header that may be, by the chapter's words and without the program's help; placedForm is those of a record and its place.
func form(h api.Header) []byte {
	b := num([]byte{3}, uint64(h.Seq))
	for _, d := range []api.Digest{h.Prev, h.Batch, h.Root, h.State} {
		b = num(b, uint64(d))
	}
	return b
}

func placedForm(p api.Placed) []byte {
	return text(num(text(nil, p.Topic), uint64(max(p.Offset, 0))), p.Record)
}

// changes are ways to change just one field of a header, each to n; numbersOf is what they change.
func changes() []func(h *api.Header, n int64) {
	return []func(h *api.Header, n int64){
		func(h *api.Header, n int64) { h.Seq = n },
		func(h *api.Header, n int64) { h.Prev = api.Digest(n) },
		func(h *api.Header, n int64) { h.Batch = api.Digest(n) },
		func(h *api.Header, n int64) { h.Root = api.Digest(n) },
		func(h *api.Header, n int64) { h.State = api.Digest(n) },
	}
}

func numbersOf(h api.Header) []int64 {
	return []int64{h.Seq, int64(h.Prev), int64(h.Batch), int64(h.Root), int64(h.State)}
}

func headerOf(n []int64) api.Header {
	var h api.Header
	for i, change := range changes() {
		change(&h, n[i])
	}
	return h
}

// goodNumbers and badNumbers are numbers at and beside the ends of what may be.
func goodNumbers() []int64 {
	return []int64{0, 1, 127, 128, 300, maxNum - 1, maxNum}
}

func badNumbers() []int64 {
	return []int64{-1, -2, -maxNum, math.MinInt64, maxNum + 1, 1 << 60, math.MaxInt64}
}

// goodHeaders are headers that may be: of each of these numbers in each place, together with each other ones.
func goodHeaders() []api.Header {
	var l []api.Header
	var down func(n []int64)
	down = func(n []int64) {
		if len(n) == 5 {
			l = append(l, headerOf(n))
			return
		}
		for _, k := range goodNumbers() {
			down(append(n, k))
		}
	}
	down(make([]int64, 0, 5))
	return l
}

// badHeaders are headers of which one number alone may not be.
func badHeaders() []api.Header {
	var l []api.Header
	for _, first := range []api.Header{{}, {Seq: 1, Prev: 2, Batch: 3, Root: 4, State: 5}, headerOf(slices.Repeat([]int64{maxNum}, 5))} {
		for _, change := range changes() {
			for _, n := range badNumbers() {
				h := first
				change(&h, n)
				l = append(l, h)
			}
		}
	}
	return l
}

// Operations, in short.
func create(topic string) api.Op { return api.Op{Kind: api.OpCreate, Topic: topic} }

func publish(topic string, l ...string) api.Op {
	o := api.Op{Kind: api.OpPublish, Topic: topic}
	for _, s := range l {
		o.Records = append(o.Records, api.Record(s))
	}
	return o
}

func commit(topic, group string, offset int64) api.Op {
	return api.Op{Kind: api.OpCommit, Topic: topic, Group: group, Offset: offset}
}

func trim(topic string, offset int64) api.Op {
	return api.Op{Kind: api.OpTrim, Topic: topic, Offset: offset}
}

// ask is a request with a signature that nobody has made.
func ask(client int, time int64, o api.Op) api.Signed {
	return api.Signed{Request: api.Request{Client: client, Time: time, Op: o}, Sign: api.Sign{Key: 13 + client, Digest: api.Digest(time)}}
}

// badBatches are batches that may not be, by their errors.
func badBatches() map[api.Errno]api.Batch {
	good := func() api.Batch { return api.Batch{ask(0, 50, create("a")), ask(1, 50, create("b"))} }
	with := func(s api.Signed) api.Batch { return append(good(), s) }
	noSign := ask(2, 50, create("c"))
	noSign.Sign.Digest = 0
	return map[api.Errno]api.Batch{
		api.ErrLong:    append(good(), ask(2, 50, create("c")), ask(3, 50, create("d")), ask(4, 50, create("e"))),
		api.ErrTwice:   with(ask(1, 50, create("c"))),
		api.ErrRequest: with(ask(8, 50, create("c"))),
		api.ErrOp:      with(ask(2, 50, api.Op{Kind: 5})),
		api.ErrName:    with(ask(2, 50, create("a/b"))),
		api.ErrRecord:  with(ask(2, 50, publish("a"))),
		api.ErrSign:    with(noSign),
	}
}

// model is a table, told without the program's help: the texts that matter, and how many numbers were given in all.
type model struct {
	known map[string]api.Digest
	last  api.Digest
}

func (m *model) sum(b []byte) api.Digest {
	d, is := m.known[string(b)]
	if !is && m.last < api.MaxSums {
		m.last++
		d = m.last
		m.known[string(b)] = d
	}
	return d
}

// root is the root of a list, asked for in chapter 5's order.
func (m *model) root(l ...[]byte) api.Digest {
	switch len(l) {
	case 0:
		return m.sum([]byte{2})
	case 1:
		return m.sum(join([]byte{0}, l[0]))
	}
	k := 1
	for 2*k < len(l) {
		k *= 2
	}
	left := m.root(l[:k]...)
	right := m.root(l[k:]...)
	return m.sum(num(num([]byte{1}, uint64(left)), uint64(right)))
}

// pair is a table beside the model of it.
type pair struct {
	x *ideal.Table
	m *model
}

// table is a new table that knows these texts.
func table(texts ...[]byte) pair {
	p := pair{ideal.NewTable(), &model{known: map[string]api.Digest{}}}
	p.learn(texts...)
	return p
}

// learn has the table know these texts, and tells the last one's number.
func (p pair) learn(texts ...[]byte) api.Digest {
	last := api.Digest(0)
	for _, b := range texts {
		p.x.Sum(b)
		last = p.m.sum(b)
	}
	return last
}

func (p pair) clone() pair {
	return pair{p.x.Clone(), &model{maps.Clone(p.m.known), p.m.last}}
}

// same tells where the table does not know what its model does.
func (p pair) same(t *testing.T) {
	t.Helper()
	if p.x.Len() != int(p.m.last) {
		t.Fatalf("the table knows %d texts, want %d", p.x.Len(), p.m.last)
	}
	for s, d := range p.m.known {
		if b, _ := p.x.Open(d); string(b) != s {
			t.Fatalf("the table's text %d is %q, want %q", d, b, s)
		}
	}
}

const mostRoom = 64

// crowd is a table that has room for mostRoom texts more. What it knows begins as nothing does that a layer asks for.
var crowd = sync.OnceValue(func() *ideal.Table {
	l := make([][]byte, api.MaxSums-mostRoom)
	for i := range l {
		l[i] = []byte("filler " + strconv.Itoa(i))
	}
	x, _ := ideal.From(l...)
	return x
})

// crowded is a table that knows these texts, and has room for so many more.
func crowded(room int, texts ...[]byte) pair {
	p := pair{crowd().Clone(), &model{map[string]api.Digest{}, api.MaxSums - mostRoom}}
	p.learn(texts...)
	for i := p.x.Len(); i < api.MaxSums-room; i++ {
		p.learn([]byte("filler " + strconv.Itoa(i)))
	}
	return p
}

// newTopicsForm is the bytes of new topics: none, and of each of eight clients three numbers.
func newTopicsForm() []byte {
	return make([]byte, 1+8*3)
}

// genesis is what Genesis has to come to.
func (m *model) genesis() (api.Header, api.Errno) {
	root := m.root()
	state := m.sum(newTopicsForm())
	if root == 0 || state == 0 {
		return api.Header{}, api.ErrFull
	}
	return api.Header{Root: root, State: state}, api.OK
}

// came is what an Execute has come to.
type came struct {
	h       api.Header
	placed  []api.Placed
	answers []api.Answered
	e       api.Errno
}

func execute(x *ideal.Table, u *topics.Topics, last api.Header, b api.Batch) came {
	h, placed, answers, e := block.Execute(x, u, last, b)
	return came{h, placed, answers, e}
}

// execute is what Execute has to come to over topics that were made; they do the requests.
func (m *model) execute(u *topics.Topics, last api.Header, b api.Batch) came {
	if check(last) != 0 {
		return came{e: 90}
	}
	if last.Seq == maxNum {
		return came{e: 6}
	}
	if e := request.CheckBatch(b); e != 0 {
		return came{e: e}
	}
	c := came{h: api.Header{Seq: last.Seq + 1}}
	if c.h.Batch = m.sum(request.PutBatch(nil, b)); c.h.Batch == 0 {
		return came{e: 6}
	}
	if c.h.Prev = m.sum(form(last)); c.h.Prev == 0 {
		return came{e: 6}
	}
	var leaves [][]byte
	for _, s := range b {
		x, placed, done := u.Apply(s.Request)
		c.answers = append(c.answers, api.Answered{Client: s.Request.Client, Time: s.Request.Time, Result: x, Done: done})
		for _, p := range placed {
			c.placed = append(c.placed, p)
			leaves = append(leaves, placedForm(p))
		}
	}
	c.h.Root = m.root(leaves...)
	c.h.State = m.sum(u.Bytes())
	if c.h.Root == 0 || c.h.State == 0 {
		return came{e: 6}
	}
	return c
}

func samePlaced(a, b []api.Placed) bool {
	return slices.EqualFunc(a, b, func(a, b api.Placed) bool {
		return a.Topic == b.Topic && a.Offset == b.Offset && bytes.Equal(a.Record, b.Record)
	})
}

func sameCame(a, b came) bool {
	return a.h == b.h && a.e == b.e && samePlaced(a.placed, b.placed) && slices.Equal(a.answers, b.answers)
}

// run executes a batch over a table and topics, and tells where that is not what it has to come to: what is answered, what table and topics are then, what was handed in.
func (p pair) run(t *testing.T, u *topics.Topics, last api.Header, b api.Batch) came {
	t.Helper()
	v, handed := u.Clone(), request.Clone(b)
	want := p.m.execute(v, last, b)
	got := execute(p.x, u, last, b)
	if !sameCame(got, want) {
		t.Fatalf("Execute behind %+v of %+v = %+v, want %+v", last, b, got, want)
	}
	if !bytes.Equal(u.Bytes(), v.Bytes()) {
		t.Fatalf("the topics behind Execute of %+v: %v, want %v", b, u.Bytes(), v.Bytes())
	}
	if !request.Same(b, handed) {
		t.Fatalf("Execute wrote to the batch: %+v, was %+v", b, handed)
	}
	p.same(t)
	return got
}

// begun is a new table in which genesis is, new topics, and genesis.
func begun(t *testing.T) (pair, *topics.Topics, api.Header) {
	t.Helper()
	p := table()
	want, _ := p.m.genesis()
	g, e := block.Genesis(p.x)
	if g != want || e != api.OK {
		t.Fatalf("Genesis = %+v, %d, want %+v", g, e, want)
	}
	return p, topics.New(), g
}

// Tables and topics that no call made.
func tablesOfNoCall() []*ideal.Table {
	var none *ideal.Table
	return []*ideal.Table{none, {}, new(ideal.Table)}
}

func topicsOfNoCall() []*topics.Topics {
	var none *topics.Topics
	return []*topics.Topics{none, {}, new(topics.Topics)}
}

// batches are some that build on each other: requests that are done, that come to an error, that were done before, that are past, none; records of no bytes, and as many as there may be.
func batches() []api.Batch {
	full := strings.Repeat("\xff", 64)
	return []api.Batch{
		{ask(0, 1, create("t")), ask(1, 1, publish("t", "x"))},
		{},
		{ask(2, 7, publish("t", "a", "", "b"))},
		{ask(2, 7, publish("t", "a", "", "b"))},
		{ask(2, 6, publish("t", "c")), ask(2, 7, create("u")), ask(2, 8, publish("none", "c"))},
		{ask(3, 1, create("u")), ask(3, 2, publish("u", "")), ask(3, 4, publish("t", "d")), ask(3, 3, publish("t", "e"))},
		{ask(4, 1, commit("t", "g", 3)), ask(5, 1, commit("t", "g", 2)), ask(6, 1, api.Op{})},
		{ask(7, 1, publish("t", full, full, full, full)), ask(6, 2, publish("u", full, full, full, full)), ask(5, 2, publish("t", "", "", "", "")), ask(4, 2, publish("t", "1", "2", "3", "4"))},
		{ask(0, maxNum, trim("t", 5))},
		nil,
		{ask(0, maxNum, trim("t", 5)), ask(1, 2, trim("t", 4))},
	}
}

// anyOp is an operation that may be, by chance, often one that can be done.
func anyOp(dice *rand.Rand) api.Op {
	name := []string{"t", "u", "v"}[dice.Intn(3)]
	switch dice.Intn(8) {
	case 0, 1:
		return create(name)
	case 2:
		return commit(name, "g", dice.Int63n(8))
	case 3:
		return trim(name, dice.Int63n(4))
	case 4:
		return api.Op{}
	}
	var l []string
	for i := range 1 + dice.Intn(4) {
		l = append(l, strings.Repeat(string(rune('a'+i)), dice.Intn(3)))
	}
	return publish(name, l...)
}

// anyBatch is a batch that may be, by chance, of requests at times about now.
func anyBatch(dice *rand.Rand, now int64) api.Batch {
	var b api.Batch
	for range dice.Intn(5) {
		s := ask(dice.Intn(3), now+dice.Int63n(3), anyOp(dice))
		if request.CheckBatch(append(b, s)) == api.OK {
			b = append(b, s)
		}
	}
	return b
}

// scribble writes to all that the owner of a batch can reach; scribblePlaced and scribbleBytes to records, byte strings.
func scribble(l api.Batch) {
	l = l[:cap(l)]
	for i := range l {
		records := l[i].Request.Op.Records
		for j := range records {
			scribbleBytes(records[j])
			records[j] = api.Record("scribble")
		}
		l[i] = api.Signed{Request: api.Request{Client: -7}}
	}
}

func scribblePlaced(l []api.Placed) {
	l = l[:cap(l)]
	for i := range l {
		scribbleBytes(l[i].Record)
		l[i] = api.Placed{Topic: "scribble", Offset: -7, Record: api.Record("scribble")}
	}
}

func scribbleBytes(b []byte) {
	b = b[:cap(b)]
	for i := range b {
		b[i]++
	}
}

// allocated is how many bytes of memory do takes.
func allocated(do func()) uint64 {
	var a, b runtime.MemStats
	runtime.ReadMemStats(&a)
	do()
	runtime.ReadMemStats(&b)
	return b.TotalAlloc - a.TotalAlloc
}
