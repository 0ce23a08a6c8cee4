package auth_test

import (
	"bytes"
	"encoding/binary"
	"maps"
	"math"
	"reflect"
	"runtime"
	"slices"
	"strconv"
	"strings"
	"sync"
	"testing"

	"bulla/api"
	"bulla/auth"
	"bulla/ideal"
	"bulla/message"
	"bulla/request"
)

const most = 1 << 53

func join(l ...[]byte) []byte {
	return slices.Concat(l...)
}

// nums is a byte and numbers behind it, one below 0 as 0.
func nums(first byte, l ...int64) []byte {
	b := []byte{first}
	for _, n := range l {
		b = binary.AppendUvarint(b, uint64(max(n, 0)))
	}
	return b
}

// vote is a vote's numbers: kind, view, seq, digest; so that each can be set alone.
type vote [4]int64

func (v vote) with(i int, n int64) vote {
	v[i] = n
	return v
}

func (v vote) form() []byte {
	return nums(4, v[:]...)
}

// may tells whether all of a vote's numbers may be.
func (v vote) may() bool {
	return slices.Min(v[:]) >= 0 && slices.Max(v[:]) <= most
}

func voteBytes(v vote) []byte {
	return auth.VoteBytes(int(v[0]), v[1], v[2], api.Digest(v[3]))
}

func doVote(t *ideal.Table, l *ideal.Ledger, key int, v vote) (api.Sign, api.Errno) {
	return auth.Vote(t, l, key, int(v[0]), v[1], v[2], api.Digest(v[3]))
}

func validVote(t *ideal.Table, l *ideal.Ledger, s api.Sign, key int, v vote) bool {
	return auth.ValidVote(t, l, s, key, int(v[0]), v[1], v[2], api.Digest(v[3]))
}

// votes are such as may be, the smallest and the greatest among them.
func votes() []vote {
	return []vote{{3, 1, 2, 5}, {}, {2, 0, 1, 1}, {4, 300, 127, 128}, {most, most, most, most}, {6, 0, 4, 1 << 20}}
}

// badNumbers are such as none of a vote's may be.
func badNumbers() []int64 {
	return []int64{-1, -2, most + 1, 1 << 60, math.MinInt64, math.MaxInt64}
}

// badKeys are keys that there are not.
func badKeys() []int {
	return []int{-1, 21, 22, 256, 1 << 32, math.MinInt, math.MaxInt}
}

// content is what of a message is signed, by the tests' own words.
func content(m api.Msg) ([]byte, api.Errno) {
	u, e := message.Unsigned(m)
	if e != 0 {
		return nil, e
	}
	switch m.Kind {
	case 2, 3, 4:
		return nums(4, int64(m.Kind), m.View, m.Seq, int64(m.Digest)), 0
	case 5:
		return nums(5, m.View, int64(m.Client), m.Time, int64(m.Result.Err), m.Result.Offset), 0
	case 6:
		return nums(4, 6, 0, m.Seq, int64(m.Digest)), 0
	case 7, 8:
		return join([]byte{6}, u), 0
	case 9:
		return nums(4, 9, 0, m.Seq, 0), 0
	}
	return nil, 0
}

// signOf is where a message's own signature stands; nil, where there is no place.
func signOf(m *api.Msg) *api.Sign {
	switch m.Kind {
	case 2, 3, 4, 5, 6, 8, 9:
		return &m.Sign
	case 7:
		if len(m.Changes) == 1 {
			return &m.Changes[0].Sign
		}
	}
	return nil
}

// withSign is a message that somebody signs, with another signature.
func withSign(m api.Msg, s api.Sign) api.Msg {
	m = normal(m)
	*signOf(&m) = s
	return m
}

// withFrom is a message of another broker, with the same signature.
func withFrom(m api.Msg, from int) api.Msg {
	m = normal(m)
	m.From = from
	if m.Kind == 7 {
		m.Changes[0].From = from
	}
	return m
}

func batchForm(l api.Batch) []byte {
	return request.PutBatch(nil, l)
}

// model is what table and ledger have, told without the program's help: the texts that matter, how many numbers were given in all, the signatures.
type model struct {
	known map[string]api.Digest
	last  api.Digest
	signs []api.Sign
}

func (m *model) copy() *model {
	return &model{maps.Clone(m.known), m.last, slices.Clone(m.signs)}
}

func (m *model) sum(b []byte) api.Digest {
	d, is := m.known[string(b)]
	if !is && m.last < api.MaxSums {
		m.last++
		d = m.last
		m.known[string(b)] = d
	}
	return d
}

// sign signs a text; where that comes to an error, the model is of no use any more.
func (m *model) sign(key int, b []byte) (api.Sign, api.Errno) {
	s := api.Sign{Key: key, Digest: m.sum(b)}
	if s.Digest == 0 {
		return api.Sign{}, 6
	}
	if key < 0 || key > 20 {
		return api.Sign{}, 20
	}
	if !slices.Contains(m.signs, s) {
		m.signs = append(m.signs, s)
	}
	return s, 0
}

func (m *model) vote(key int, v vote) (api.Sign, api.Errno) {
	if !v.may() {
		return api.Sign{}, 1
	}
	return m.sign(key, v.form())
}

func (m *model) entry(key int, x api.Entry) (api.Entry, api.Errno) {
	if e := request.CheckBatch(x.Batch); e != 0 {
		return api.Entry{}, e
	}
	d := m.sum(batchForm(x.Batch))
	if d == 0 {
		return api.Entry{}, 6
	}
	s, e := m.vote(key, vote{2, x.View, x.Seq, int64(d)})
	if e != 0 {
		return api.Entry{}, e
	}
	x.Sign = s
	return x, 0
}

func (m *model) seal(x api.Msg) (api.Msg, api.Errno) {
	b, e := content(x)
	if e != 0 {
		return api.Msg{}, e
	}
	if b == nil {
		return x, 0
	}
	s, e := m.sign(x.From, b)
	if e != 0 {
		return api.Msg{}, e
	}
	return withSign(x, s), 0
}

// signed tells whether s is key's signature over b.
func (m *model) signed(s api.Sign, key int, b []byte) bool {
	d, known := m.known[string(b)]
	return known && s.Key == key && s.Digest == d && slices.Contains(m.signs, s)
}

func (m *model) valid(x api.Msg) bool {
	b, e := content(x)
	if e != 0 || message.Check(x) != 0 {
		return false
	}
	return b == nil || m.signed(*signOf(&x), x.From, b)
}

func (m *model) validVote(s api.Sign, key int, v vote) bool {
	return v.may() && m.signed(s, key, v.form())
}

func (m *model) validEntry(key int, x api.Entry) bool {
	if request.CheckBatch(x.Batch) != 0 {
		return false
	}
	d, known := m.known[string(batchForm(x.Batch))]
	return known && m.validVote(x.Sign, key, vote{2, x.View, x.Seq, int64(d)})
}

// house is a table and a ledger beside the model of them.
type house struct {
	x *ideal.Table
	l *ideal.Ledger
	m *model
}

// newHouse is one of a new ledger, and a new table that knows these texts.
func newHouse(texts ...[]byte) house {
	h := house{ideal.NewTable(), ideal.NewLedger(), &model{known: map[string]api.Digest{}}}
	h.learn(texts...)
	return h
}

func (h house) learn(texts ...[]byte) {
	for _, b := range texts {
		h.x.Sum(b)
		h.m.sum(b)
	}
}

// sign notes signatures in ledger and model, whatever they are over.
func (h house) sign(l ...api.Sign) {
	for _, s := range l {
		h.l.Sign(s.Key, s.Digest)
		if !slices.Contains(h.m.signs, s) {
			h.m.signs = append(h.m.signs, s)
		}
	}
}

func (h house) clone() house {
	return house{h.x.Clone(), h.l.Clone(), h.m.copy()}
}

const mostRoom = 64

// crowd is a table that has room for mostRoom texts more. What it knows begins as nothing does that is asked for here.
var crowd = sync.OnceValue(func() *ideal.Table {
	l := make([][]byte, api.MaxSums-mostRoom)
	for i := range l {
		l[i] = []byte("filler " + strconv.Itoa(i))
	}
	x, _ := ideal.From(l...)
	return x
})

// crowded is one whose table knows these texts, and has room for so many more.
func crowded(room int, texts ...[]byte) house {
	h := house{crowd().Clone(), ideal.NewLedger(), &model{known: map[string]api.Digest{}, last: api.MaxSums - mostRoom}}
	h.learn(texts...)
	for i := h.x.Len(); i < api.MaxSums-room; i++ {
		h.learn([]byte("filler " + strconv.Itoa(i)))
	}
	return h
}

// same tells where table or ledger are not what the model says.
func (h house) same(t *testing.T) {
	t.Helper()
	if h.x.Len() != int(h.m.last) {
		t.Fatalf("the table knows %d texts, want %d", h.x.Len(), h.m.last)
	}
	for s, d := range h.m.known {
		if b, _ := h.x.Open(d); string(b) != s {
			t.Fatalf("the table's text %d is %v, want %v", d, b, []byte(s))
		}
	}
	if !slices.Equal(h.l.Signs(), h.m.signs) {
		t.Fatalf("the ledger has %v, want %v", h.l.Signs(), h.m.signs)
	}
}

// tried has a call made on the model, and forgets what that did, if it came to an error: so it is with the program.
func tried[T any](h house, call func(m *model) (T, api.Errno)) (T, api.Errno) {
	m := h.m.copy()
	x, e := call(m)
	if e == 0 {
		*h.m = *m
	}
	return x, e
}

// vote, entry, seal ask the program and the model, and tell where they answer or come to something else.
func (h house) vote(t *testing.T, key int, v vote) (api.Sign, api.Errno) {
	t.Helper()
	want, f := tried(h, func(m *model) (api.Sign, api.Errno) { return m.vote(key, v) })
	s, e := doVote(h.x, h.l, key, v)
	if s != want || e != f {
		t.Fatalf("Vote of %d for %v = %v, %d, want %v, %d", key, v, s, e, want, f)
	}
	h.same(t)
	return s, e
}

func (h house) entry(t *testing.T, key int, x api.Entry) (api.Entry, api.Errno) {
	t.Helper()
	first := normal(x)
	want, f := tried(h, func(m *model) (api.Entry, api.Errno) { return m.entry(key, x) })
	got, e := auth.Entry(h.x, h.l, key, x)
	if !same(got, want) || e != f {
		t.Fatalf("Entry of %d, %+v = %+v, %d, want %+v, %d", key, x, got, e, want, f)
	}
	if !same(x, first) {
		t.Fatalf("Entry wrote to %+v", first)
	}
	h.same(t)
	return got, e
}

func (h house) seal(t *testing.T, x api.Msg) (api.Msg, api.Errno) {
	t.Helper()
	first := normal(x)
	want, f := tried(h, func(m *model) (api.Msg, api.Errno) { return m.seal(x) })
	got, e := auth.Seal(h.x, h.l, x)
	if !same(got, want) || e != f {
		t.Fatalf("Seal(%+v) = %+v, %d, want %+v, %d", x, got, e, want, f)
	}
	if !same(x, first) {
		t.Fatalf("Seal wrote to %+v", first)
	}
	h.same(t)
	return got, e
}

// sealed is a message that there is no error of.
func (h house) sealed(t *testing.T, x api.Msg) api.Msg {
	t.Helper()
	m, e := h.seal(t, x)
	if e != 0 {
		t.Fatalf("Seal(%+v): %d", x, e)
	}
	return m
}

// valid tells where Valid does not say so, where the model says otherwise, and where table or ledger learn or the message is written to; validVote and validEntry likewise.
func (h house) valid(t *testing.T, want bool, x api.Msg) {
	t.Helper()
	first := normal(x)
	if got := auth.Valid(h.x, h.l, x); got != want || h.m.valid(x) != want {
		t.Fatalf("Valid(%+v) = %v", x, got)
	}
	if !same(x, first) {
		t.Fatalf("Valid wrote to %+v", first)
	}
	h.same(t)
}

func (h house) validVote(t *testing.T, want bool, s api.Sign, key int, v vote) {
	t.Helper()
	if got := validVote(h.x, h.l, s, key, v); got != want || h.m.validVote(s, key, v) != want {
		t.Fatalf("ValidVote of %d, %v for %v = %v", key, s, v, got)
	}
	h.same(t)
}

func (h house) validEntry(t *testing.T, want bool, key int, x api.Entry) {
	t.Helper()
	first := normal(x)
	if got := auth.ValidEntry(h.x, h.l, key, x); got != want || h.m.validEntry(key, x) != want {
		t.Fatalf("ValidEntry of %d, %+v = %v", key, x, got)
	}
	if !same(x, first) {
		t.Fatalf("ValidEntry wrote to %+v", first)
	}
	h.same(t)
}

// unmade are tables and ledgers of which no call made one or both.
func unmade() []house {
	var l []house
	made := newHouse([]byte("a"))
	made.sign(api.Sign{Key: 1, Digest: 1})
	var noTable *ideal.Table
	var noLedger *ideal.Ledger
	for _, x := range []*ideal.Table{noTable, {}, new(ideal.Table)} {
		l = append(l, house{x: x, l: made.l}, house{x: x, l: ideal.NewLedger()})
		for _, y := range []*ideal.Ledger{noLedger, {}, new(ideal.Ledger)} {
			l = append(l, house{x: x, l: y})
		}
	}
	for _, y := range []*ideal.Ledger{noLedger, {}, new(ideal.Ledger)} {
		l = append(l, house{x: made.x, l: y}, house{x: ideal.NewTable(), l: y})
	}
	return l
}

// untouched tells where a call changes how much one that no call made has, or what stands beside it.
func (h house) untouched(t *testing.T, call func()) {
	t.Helper()
	texts, signs := h.x.Len(), h.l.Len()
	call()
	if h.x.Len() != texts || h.l.Len() != signs {
		t.Fatalf("%d texts, %d signatures, were %d, %d", h.x.Len(), h.l.Len(), texts, signs)
	}
}

func sign(key int, d api.Digest) api.Sign {
	return api.Sign{Key: key, Digest: d}
}

// anySigns are signatures that may be, that may not be, and none.
func anySigns() []api.Sign {
	return []api.Sign{{}, sign(0, 1), sign(1, 2), sign(20, most), sign(21, 1), sign(-1, 1), sign(1, 0), sign(1, -1), sign(3, most+1), sign(math.MinInt, math.MaxInt64)}
}

// ask is a request of a client at a time, signed by nobody.
func ask(client int, time int64, o api.Op) api.Signed {
	return api.Signed{Request: api.Request{Client: client, Time: time, Op: o}, Sign: sign(13+client, 77)}
}

// batch is so many requests of clients, of which no two are the same.
func batch(n int) api.Batch {
	var l api.Batch
	for i := range n {
		o := []api.Op{{Kind: api.OpPublish, Topic: "t", Records: []api.Record{{9}, {}, {7, 8}}}, {}, {Kind: api.OpCommit, Topic: "t", Group: "g", Offset: 300}, {Kind: api.OpCreate, Topic: "größe"}}[i%4]
		l = append(l, ask(3-i%4, int64(7000+100*i), o))
	}
	return l
}

// badBatches are such as may not be, each with its error.
func badBatches() map[api.Errno]api.Batch {
	noSign := ask(1, 2, api.Op{})
	noSign.Sign.Digest = 0
	return map[api.Errno]api.Batch{
		3:  batch(5),
		5:  {ask(1, 2, api.Op{}), ask(2, 2, api.Op{}), ask(1, 2, api.Op{Kind: api.OpCreate, Topic: "t"})},
		80: {ask(1, 2, api.Op{}), ask(8, 2, api.Op{})},
		60: {ask(1, 2, api.Op{Kind: 5})},
		61: {ask(1, 2, api.Op{Kind: api.OpCreate})},
		62: {ask(1, 2, api.Op{Kind: api.OpPublish, Topic: "t"})},
		81: {noSign},
	}
}

func cert() api.Cert {
	return api.Cert{Seq: 4, Digest: 9, Signs: []api.Sign{sign(0, 5), sign(1, 5), sign(3, 5)}}
}

func change(from int, above int) api.Change {
	c := api.Change{View: 2, From: from, Cert: cert(), Sign: sign(from, 70)}
	for i := range above {
		c.Above = append(c.Above, api.Prepared{View: 1, Seq: int64(5 + i), Digest: api.Digest(300 + i), First: sign(1, 17), Signs: []api.Sign{sign(0, 18), sign(2, 18)}, Batch: batch(1 + i%4)})
	}
	return c
}

// ordinary is a message of each Kind, by Kind, whose signature is nobody's.
func ordinary() []api.Msg {
	s := sign(7, 7777)
	headers := []api.Header{{Seq: 3, Prev: 1, Batch: 2, Root: 3, State: 4}, {Seq: 4, Prev: 5, Batch: 6, Root: 7, State: 8}}
	proof := api.Proof{Topic: "größe", Offset: 3, Record: api.Record{7, 0, 200}, Headers: headers, Index: 1, Count: 3, Path: []api.Digest{0, 300}, Cert: cert()}
	entries := []api.Entry{{View: 2, Seq: 5, Batch: batch(2), Sign: sign(2, 40)}, {View: 2, Seq: 6, Sign: sign(2, 41)}}
	return normal([]api.Msg{
		{Kind: api.MsRequest, Batch: batch(1)},
		{Kind: api.MsPrePrepare, From: 2, View: 200, Seq: 3, Digest: 4, Batch: batch(2), Sign: s},
		{Kind: api.MsPrepare, From: 1, View: 2, Seq: 3, Digest: 9, Sign: s},
		{Kind: api.MsCommit, From: 3, View: 1, Seq: 300, Digest: 9000, Sign: s},
		{Kind: api.MsReply, From: 1, View: 2, Client: 3, Time: 4, Result: api.Result{Err: 60, Offset: 300}, Sign: s},
		{Kind: api.MsCheckpoint, From: 1, Seq: 4, Digest: 3, Sign: s},
		{Kind: api.MsViewChange, From: 1, View: 2, Changes: []api.Change{change(1, 2)}},
		{Kind: api.MsNewView, From: 2, View: 2, Changes: []api.Change{change(0, 1), change(3, 0)}, Entries: entries, Sign: s},
		{Kind: api.MsFetch, From: 1, Seq: 8, Sign: s},
		{Kind: api.MsSnap, From: 1, Cert: cert(), State: []byte("state")},
		{Kind: api.MsAsk, Client: 3, Topic: "größe", Offset: 4000},
		{Kind: api.MsProof, From: 1, Proof: proof},
	})
}

// small are messages of which each number and each list is as small as may be, by Kind.
func small() []api.Msg {
	s := sign(0, 1)
	return normal([]api.Msg{
		{Kind: api.MsRequest, Batch: api.Batch{{Request: api.Request{Time: 1}, Sign: s}}},
		{Kind: api.MsPrePrepare, Seq: 1, Digest: 1, Sign: s},
		{Kind: api.MsPrepare, Seq: 1, Digest: 1, Sign: s},
		{Kind: api.MsCommit, Seq: 1, Digest: 1, Sign: s},
		{Kind: api.MsReply, Sign: s},
		{Kind: api.MsCheckpoint, Seq: 1, Digest: 1, Sign: s},
		{Kind: api.MsViewChange, View: 1, Changes: []api.Change{{View: 1, Sign: s}}},
		{Kind: api.MsNewView, View: 1, Sign: s},
		{Kind: api.MsFetch, Sign: s},
		{Kind: api.MsSnap},
		{Kind: api.MsAsk, Topic: "t"},
		{Kind: api.MsProof, Proof: api.Proof{Topic: "t", Count: 1}},
	})
}

// great are messages of which each number and each list is as great as may be, of the Kinds that somebody signs.
func great() []api.Msg {
	s, long := sign(20, most), strings.Repeat("\U0010ffff", 16)
	full := api.Record(strings.Repeat("\xff", 64))
	o := api.Op{Kind: api.OpPublish, Topic: long, Records: []api.Record{full, full, full, full}}
	var b api.Batch
	for i := range 4 {
		b = append(b, api.Signed{Request: api.Request{Client: 7, Time: most - int64(i), Op: o}, Sign: s})
	}
	c := api.Cert{Seq: most, Digest: most, Signs: slices.Repeat([]api.Sign{s}, 13)}
	p := api.Prepared{View: most, Seq: most, Digest: most, First: s, Signs: c.Signs, Batch: b}
	x := api.Change{View: most, From: 12, Cert: c, Above: slices.Repeat([]api.Prepared{p}, 8), Sign: s}
	y := api.Entry{View: most, Seq: most, Batch: b, Sign: s}
	return normal([]api.Msg{
		{Kind: api.MsPrePrepare, From: 12, View: most, Seq: most, Digest: most, Batch: b, Sign: s},
		{Kind: api.MsPrepare, From: 12, View: most, Seq: most, Digest: most, Sign: s},
		{Kind: api.MsCommit, From: 12, View: most, Seq: most, Digest: most, Sign: s},
		{Kind: api.MsReply, From: 12, View: most, Client: 7, Time: most, Result: api.Result{Err: 1 << 16, Offset: most}, Sign: s},
		{Kind: api.MsCheckpoint, From: 12, Seq: most, Digest: most, Sign: s},
		{Kind: api.MsViewChange, From: 12, View: most, Changes: []api.Change{x}},
		{Kind: api.MsNewView, From: 12, View: most, Changes: slices.Repeat([]api.Change{x}, 13), Entries: slices.Repeat([]api.Entry{y}, 8), Sign: s},
		{Kind: api.MsFetch, From: 12, Seq: most, Sign: s},
	})
}

// samples are messages that may be, of each Kind.
func samples() []api.Msg {
	return slices.Concat(ordinary(), small(), great())
}

// someoneSigns are those of them that somebody signs.
func someoneSigns(l []api.Msg) []api.Msg {
	return slices.DeleteFunc(l, func(m api.Msg) bool { return signOf(&m) == nil })
}

// normal is x with nil for each list that is empty, in memory of its own.
func normal[T any](x T) T {
	v := reflect.New(reflect.TypeOf(x)).Elem()
	v.Set(copied(reflect.ValueOf(x)))
	return v.Interface().(T)
}

func copied(v reflect.Value) reflect.Value {
	c := reflect.New(v.Type()).Elem()
	switch v.Kind() {
	case reflect.Struct:
		for i := range v.NumField() {
			c.Field(i).Set(copied(v.Field(i)))
		}
	case reflect.Slice:
		if v.Len() == 0 {
			return c
		}
		c.Set(reflect.MakeSlice(v.Type(), v.Len(), v.Len()))
		for i := range v.Len() {
			c.Index(i).Set(copied(v.Index(i)))
		}
	default:
		c.Set(v)
	}
	return c
}

// same tells whether two things are the same, field by field, without the program's help.
func same[T any](a, b T) bool {
	return reflect.DeepEqual(normal(a), normal(b))
}

// knobs are all the numbers, texts and lists within x, which is a pointer.
func knobs(x any) []reflect.Value {
	var l []reflect.Value
	var down func(v reflect.Value)
	down = func(v reflect.Value) {
		switch v.Kind() {
		case reflect.Struct:
			for i := range v.NumField() {
				down(v.Field(i))
			}
		case reflect.Slice:
			l = append(l, v)
			for i := range v.Len() {
				down(v.Index(i))
			}
		default:
			l = append(l, v)
		}
	}
	down(reflect.ValueOf(x).Elem())
	return l
}

// turns are what a knob is set to: numbers beside it and at edges, other texts, lists that are longer or shorter by one.
func turns(v reflect.Value) []func() {
	var l []func()
	switch v.Kind() {
	case reflect.Int, reflect.Int64:
		l = append(l, func() { v.SetInt(v.Int() + 1) }, func() { v.SetInt(v.Int() - 1) })
		for _, n := range []int64{0, 1, 12, 20, most, -1, most + 1} {
			l = append(l, func() { v.SetInt(n) })
		}
	case reflect.Uint8:
		l = append(l, func() { v.SetUint(v.Uint() ^ 1) })
	case reflect.String:
		l = append(l, func() { v.SetString(v.String() + "x") }, func() { v.SetString("") })
	case reflect.Slice:
		l = append(l, func() { v.Set(longer(v)) }, func() { v.SetZero() })
		if v.Len() > 0 {
			l = append(l, func() { v.Set(v.Slice(0, v.Len()-1)) }, func() { v.Set(v.Slice(1, v.Len())) })
		}
	}
	return l
}

// longer is a list with one more: the zero one, or the last one again, at another time.
func longer(v reflect.Value) reflect.Value {
	if v.Len() == 0 {
		return reflect.Append(v, reflect.Zero(v.Type().Elem()))
	}
	l := reflect.Append(v.Slice3(0, v.Len(), v.Len()), copied(v.Index(v.Len()-1)))
	if s, is := l.Index(v.Len()).Addr().Interface().(*api.Signed); is {
		s.Request.Time++
	}
	return l
}

// turned are all that come of x with one knob turned.
func turned[T any](x T) []T {
	var l []T
	first := normal(x)
	for i, v := range knobs(&first) {
		for j := range turns(v) {
			y := normal(x)
			turns(knobs(&y)[i])[j]()
			l = append(l, y)
		}
	}
	return l
}

// scribble writes to all that the owner of x, which is a pointer, can reach.
func scribble(x any) {
	scribbleValue(reflect.ValueOf(x).Elem())
}

func scribbleValue(v reflect.Value) {
	switch v.Kind() {
	case reflect.Struct:
		for i := range v.NumField() {
			scribbleValue(v.Field(i))
		}
	case reflect.Slice:
		v = v.Slice(0, v.Cap())
		for i := range v.Len() {
			scribbleValue(v.Index(i))
		}
	case reflect.Int, reflect.Int64:
		v.SetInt(v.Int() + 1)
	case reflect.Uint8:
		v.SetUint(v.Uint() + 1)
	case reflect.String:
		v.SetString("scribble")
	}
}

// roomy is x with room behind each list; and what tells whether that was written to.
func roomy[T any](x T) (T, func() bool) {
	c := normal(x)
	var rooms []reflect.Value
	for _, v := range slices.Backward(knobs(&c)) { // what stands in a list ahead of the list
		if v.Kind() != reflect.Slice {
			continue
		}
		n := v.Len()
		room := reflect.MakeSlice(v.Type(), n+3, n+3)
		reflect.Copy(room, v)
		rooms = append(rooms, room.Slice(n, n+3))
		v.Set(room.Slice(0, n))
	}
	return c, func() bool {
		return slices.ContainsFunc(rooms, func(room reflect.Value) bool {
			return !room.Index(0).IsZero() || !room.Index(1).IsZero() || !room.Index(2).IsZero()
		})
	}
}

// allocated is how many bytes of memory do takes.
func allocated(do func()) uint64 {
	var a, b runtime.MemStats
	runtime.ReadMemStats(&a)
	do()
	runtime.ReadMemStats(&b)
	return b.TotalAlloc - a.TotalAlloc
}

// The samples have to be what they say.
func TestSamples(t *testing.T) {
	for i, m := range append(ordinary(), small()...) {
		if m.Kind != i%12+1 || message.Check(m) != 0 {
			t.Errorf("%d: Kind %d: %d", i, m.Kind, message.Check(m))
		}
	}
	if l := someoneSigns(samples()); len(l) != 24 {
		t.Errorf("%d that somebody signs", len(l))
	}
	for _, m := range great() {
		if b, e := message.Bytes(m); e != 0 || signOf(&m) == nil || m.Kind == 8 && len(b) < 150000 {
			t.Errorf("Kind %d: %d bytes, %d", m.Kind, len(b), e)
		}
	}
	for e, b := range badBatches() {
		if request.CheckBatch(b) != e {
			t.Errorf("%d: %d", e, request.CheckBatch(b))
		}
	}
	if h := crowded(3, []byte("a")); h.x.Len() != api.MaxSums-3 || !bytes.Equal(h.x.Plain()[api.MaxSums-mostRoom], []byte("a")) {
		t.Errorf("a crowd of %d", h.x.Len())
	}
}
