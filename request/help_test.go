package request_test

import (
	"encoding/binary"
	"math"
	"math/rand"
	"runtime"
	"slices"
	"strings"
	"testing"

	"bulla/api"
	"bulla/codec"
	"bulla/ideal"
	"bulla/op"
	"bulla/request"
)

// check, checkSign and checkBatch are what Check, CheckSign and CheckBatch have to say, with op.Check's word alone.
func check(x api.Request) api.Errno {
	switch {
	case x.Client < 0, x.Client > 7, x.Time <= 0, x.Time > 1<<53:
		return 80
	}
	return op.Check(x.Op)
}

func checkSign(s api.Sign) api.Errno {
	switch {
	case s.Key < 0, s.Key > 20, s.Digest <= 0, s.Digest > 1<<53:
		return 81
	}
	return 0
}

func checkBatch(l api.Batch) api.Errno {
	if len(l) > 4 {
		return 3
	}
	for _, s := range l {
		for _, e := range []api.Errno{check(s.Request), checkSign(s.Sign)} {
			if e != 0 {
				return e
			}
		}
	}
	known := map[[2]int64]int{}
	for _, s := range l {
		known[[2]int64{int64(s.Request.Client), s.Request.Time}]++
	}
	if len(known) < len(l) {
		return 5
	}
	return 0
}

func num(b []byte, n uint64) []byte {
	return binary.AppendUvarint(b, n)
}

func text[T []byte | api.Record | string](b []byte, s T) []byte {
	return append(num(b, uint64(len(s))), s...)
}

// opForm is the bytes of an operation that may be.
func opForm(o api.Op) []byte {
	b := []byte{byte(o.Kind)}
	switch o.Kind {
	case 1:
		b = text(b, o.Topic)
	case 2:
		b = append(text(b, o.Topic), byte(len(o.Records)))
		for _, x := range o.Records {
			b = text(b, x)
		}
	case 3:
		b = num(text(text(b, o.Topic), o.Group), uint64(o.Offset))
	case 4:
		b = num(text(b, o.Topic), uint64(o.Offset))
	}
	return b
}

// form, signForm and batchForm are the bytes of what may be, by the chapter's words and without the program's help.
func form(x api.Request) []byte {
	return append(num([]byte{byte(x.Client)}, uint64(x.Time)), opForm(x.Op)...)
}

func signForm(s api.Sign) []byte {
	return num([]byte{byte(s.Key)}, uint64(s.Digest))
}

func batchForm(l api.Batch) []byte {
	b := []byte{byte(len(l))}
	for _, s := range l {
		b = append(text(b, form(s.Request)), signForm(s.Sign)...)
	}
	return b
}

// same tells whether two requests are the same, field by field; sameBatch whether two batches are.
func same(a, b api.Request) bool {
	return a.Client == b.Client && a.Time == b.Time &&
		a.Op.Kind == b.Op.Kind && a.Op.Topic == b.Op.Topic && a.Op.Group == b.Op.Group && a.Op.Offset == b.Op.Offset &&
		slices.EqualFunc(a.Op.Records, b.Op.Records, func(x, y api.Record) bool { return string(x) == string(y) })
}

func sameBatch(a, b api.Batch) bool {
	return slices.EqualFunc(a, b, func(x, y api.Signed) bool {
		return same(x.Request, y.Request) && x.Sign.Key == y.Sign.Key && x.Sign.Digest == y.Sign.Digest
	})
}

// isZero tells whether a request is the zero one.
func isZero(x api.Request) bool {
	return same(x, api.Request{})
}

func create(topic string) api.Op {
	return api.Op{Kind: api.OpCreate, Topic: topic}
}

func publish(l ...string) api.Op {
	o := api.Op{Kind: api.OpPublish, Topic: "t"}
	for _, x := range l {
		o.Records = append(o.Records, api.Record(x))
	}
	return o
}

// ask is a request of a client at a time, with an operation of just this client and time.
func ask(client int, time int64) api.Request {
	return api.Request{Client: client, Time: time, Op: publish(string(rune('a'+client)), string(num(nil, uint64(time))))}
}

// signed is that request, with a signature that nobody has made.
func signed(client int, time int64) api.Signed {
	return api.Signed{Request: ask(client, time), Sign: api.Sign{Key: 13 + client, Digest: api.Digest(time)}}
}

// batch is such requests, of clients 0 and on, at the times 1 and on.
func batch(n int) api.Batch {
	var l api.Batch
	for i := range n {
		l = append(l, signed(i, int64(i+1)))
	}
	return l
}

// ops are operations that may be: each kind, the smallest ones and the greatest ones.
func ops() []api.Op {
	long := strings.Repeat("\U0010ffff", 16)
	full := strings.Repeat("\xff", 64)
	return []api.Op{
		{}, create("t"), create("größe"), create(long),
		publish(""), publish("\x09"), publish("a", "", "bc"), publish(full, full, full, full),
		{Kind: api.OpPublish, Topic: long, Records: publish(full, full, full, full).Records},
		{Kind: api.OpCommit, Topic: "t", Group: "g"}, {Kind: api.OpCommit, Topic: "t", Group: "g", Offset: 300}, {Kind: api.OpCommit, Topic: long, Group: long, Offset: 1 << 53},
		{Kind: api.OpTrim, Topic: "t"}, {Kind: api.OpTrim, Topic: "t", Offset: 1 << 53},
	}
}

// badOps are operations that may not be, with each of op.Check's errors.
func badOps() []api.Op {
	return []api.Op{
		{Kind: 5}, {Kind: -1}, {Kind: math.MinInt}, {Topic: "t"}, {Kind: api.OpCreate, Topic: "t", Offset: 1}, {Kind: api.OpTrim, Topic: "t", Offset: -1}, {Kind: api.OpTrim, Topic: "t", Offset: 1<<53 + 1}, // ErrOp
		create(""), create("a/b"), create("\xff"), create(strings.Repeat("x", 17)), {Kind: api.OpCommit, Topic: "t"}, // ErrName
		publish(), publish("", "", "", "", ""), publish(strings.Repeat("x", 65)), // ErrRecord
	}
}

// clients, times, keys and digests are numbers at and beside the ends of what they may be.
func clients() []int {
	return []int{0, 1, 6, 7, -1, 8, 9, 13, 255, 256, 1 << 32, math.MinInt, math.MaxInt}
}

func times() []int64 {
	return []int64{1, 2, 127, 128, 1<<53 - 1, 1 << 53, 0, -1, 1<<53 + 1, math.MinInt64, math.MaxInt64}
}

func keys() []int {
	return []int{0, 1, 12, 13, 19, 20, -1, 21, 22, 256, 1 << 32, math.MinInt, math.MaxInt}
}

func digests() []api.Digest {
	return []api.Digest{1, 2, 127, 128, 1<<53 - 1, 1 << 53, 0, -1, 1<<53 + 1, math.MinInt64, math.MaxInt64}
}

// all are requests of each of these clients at each of these times with each operation, such as may be and others.
func all() []api.Request {
	var l []api.Request
	for _, client := range clients() {
		for _, time := range times() {
			for _, o := range slices.Concat(ops(), badOps()) {
				l = append(l, api.Request{Client: client, Time: time, Op: o})
			}
		}
	}
	return l
}

// good are those of all that may be.
func good() []api.Request {
	return slices.DeleteFunc(all(), func(x api.Request) bool { return check(x) != 0 })
}

// signs are signatures of each of these keys over each of these digests, such as may be and others.
func signs() []api.Sign {
	var l []api.Sign
	for _, key := range keys() {
		for _, d := range digests() {
			l = append(l, api.Sign{Key: key, Digest: d})
		}
	}
	return l
}

func goodSigns() []api.Sign {
	return slices.DeleteFunc(signs(), func(s api.Sign) bool { return checkSign(s) != 0 })
}

// anyBatch is a batch by chance: of up to five requests, mostly such as may be.
func anyBatch(dice *rand.Rand) api.Batch {
	var l api.Batch
	for range dice.Intn(6) {
		x := api.Request{Client: pick(dice, clients(), 3), Time: pick(dice, times(), 4), Op: pick(dice, slices.Concat(ops(), badOps()), 12)}
		l = append(l, api.Signed{Request: x, Sign: api.Sign{Key: pick(dice, keys(), 6), Digest: pick(dice, digests(), 6)}})
	}
	return l
}

// pick is one of a list, mostly one of the first ones.
func pick[T any](dice *rand.Rand, l []T, first int) T {
	if dice.Intn(30) > 0 {
		l = l[:first]
	}
	return l[dice.Intn(len(l))]
}

// goodBatches are batches that may be: none, each number of requests, and many by chance.
func goodBatches() []api.Batch {
	full := api.Batch{}
	for i, client := range []int{7, 7, 0, 3} { // the longest one
		full = append(full, api.Signed{Request: api.Request{Client: client, Time: 1<<53 - int64(i), Op: ops()[8]}, Sign: api.Sign{Key: 20, Digest: 1 << 53}})
	}
	l := []api.Batch{nil, batch(1), batch(2), batch(3), batch(4), full}
	dice := rand.New(rand.NewSource(8))
	for len(l) < 3000 {
		if b := anyBatch(dice); checkBatch(b) == 0 {
			l = append(l, b)
		}
	}
	return l
}

// badBatches are batches that may not be, with each of CheckBatch's errors.
func badBatches() []api.Batch {
	l := []api.Batch{batch(5), append(batch(3), signed(0, 1)), {signed(1, 1), signed(1, 1)}}
	for i := range 4 {
		for _, o := range badOps() {
			b := batch(4)
			b[i].Request.Op = o
			l = append(l, b)
		}
		for _, change := range []func(s *api.Signed){
			func(s *api.Signed) { s.Request.Client = 8 },
			func(s *api.Signed) { s.Request.Time = 0 },
			func(s *api.Signed) { s.Sign = api.Sign{} },
			func(s *api.Signed) { s.Sign.Key = 21 },
			func(s *api.Signed) { s.Sign.Digest = -1 },
		} {
			b := batch(4)
			change(&b[i])
			l = append(l, b)
		}
	}
	return l
}

// tables and ledgers that no call made.
func tablesOfNoCall() []*ideal.Table {
	var none *ideal.Table
	return []*ideal.Table{none, {}, new(ideal.Table)}
}

func ledgersOfNoCall() []*ideal.Ledger {
	var none *ideal.Ledger
	return []*ideal.Ledger{none, {}, new(ideal.Ledger)}
}

// readersOfError are readers that cannot read what b has: with an error, and such as no call made. Each stands by the error that it has to keep.
func readersOfError(b []byte) map[api.Errno][]*codec.Reader {
	m := map[api.Errno][]*codec.Reader{}
	for _, e := range []api.Errno{api.ErrRest, api.ErrSign, api.ErrCut, -1} {
		r := codec.Read(b)
		r.Fail(e)
		m[e] = []*codec.Reader{r}
	}
	var none *codec.Reader
	m[api.ErrMade] = []*codec.Reader{none, {}, new(codec.Reader)}
	return m
}

// seal is a request that was sealed.
func seal(t *testing.T, u *ideal.Table, l *ideal.Ledger, x api.Request) api.Signed {
	t.Helper()
	s, e := request.Seal(u, l, x)
	if e != api.OK {
		t.Fatalf("Seal(%+v): %d", x, e)
	}
	return s
}

// scribble writes to all of a batch that its owner can reach.
func scribble(l api.Batch) {
	l = l[:cap(l)]
	for i := range l {
		scribbleOp(l[i].Request.Op)
		l[i] = api.Signed{Request: api.Request{Client: -7}}
	}
}

func scribbleOp(o api.Op) {
	l := o.Records[:cap(o.Records)]
	for i := range l {
		scribbleBytes(l[i])
		l[i] = api.Record("scribble")
	}
}

func scribbleBytes(b []byte) {
	b = b[:cap(b)]
	for i := range b {
		b[i]++
	}
}

// allocated is how many bytes of memory do takes.
func allocated(do func()) uint64 {
	var a, b runtime.MemStats
	runtime.ReadMemStats(&a)
	do()
	runtime.ReadMemStats(&b)
	return b.TotalAlloc - a.TotalAlloc
}

// join is byte strings, one behind the other.
func join(l ...[]byte) []byte {
	return slices.Concat(l...)
}

// The tests' own words for what may be have to be told apart by enough of each.
func TestSamples(t *testing.T) {
	count := map[api.Errno]int{}
	for _, x := range all() {
		count[check(x)]++
	}
	for _, s := range signs() {
		if e := checkSign(s); e != 0 {
			count[e]++
		}
	}
	dice := rand.New(rand.NewSource(1))
	for range 10000 {
		count[checkBatch(anyBatch(dice))]++
	}
	for _, e := range []api.Errno{api.OK, api.ErrRequest, api.ErrSign, api.ErrOp, api.ErrName, api.ErrRecord, api.ErrLong, api.ErrTwice} {
		if count[e] < 50 {
			t.Errorf("only %d samples of error %d", count[e], e)
		}
	}
	for _, b := range badBatches() {
		if checkBatch(b) == 0 {
			t.Errorf("a bad batch that may be: %+v", b)
		}
	}
}
