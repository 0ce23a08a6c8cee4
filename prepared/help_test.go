package prepared_test

import (
	"math"
	"slices"
	"testing"

	"bulla/api"
	"bulla/auth"
	"bulla/ideal"
	"bulla/request"
)

const most = 1 << 53

// cluster is how many brokers there are, and how many backups have to prepare, told one by one.
type cluster struct{ f, brokers, backups int }

func clusters() []cluster {
	return []cluster{{1, 4, 2}, {2, 7, 4}, {3, 10, 6}, {4, 13, 8}}
}

// wrongFaults are numbers of faulty brokers that may not be.
func wrongFaults() []int {
	return []int{0, -1, -2, -4, 5, 6, 13, math.MinInt, math.MinInt + 1, math.MaxInt, 1<<8 + 1, 1<<32 + 1, 1<<62 + 1}
}

func someViews() []int64 {
	return []int64{0, 1, 2, 3, 4, 5, 6, 7, 8, 9, 10, 11, 12, 13, 127, 128, 1 << 32, most - 2, most - 1, most}
}

func wrongViews() []int64 {
	return []int64{-1, -2, -4, -7, -10, -13, most + 1, most + 2, most + 13, 1 << 62, math.MinInt64, math.MinInt64 + 1, math.MaxInt64 - 1, math.MaxInt64}
}

func someSeqs() []int64 {
	return []int64{1, 2, 3, 4, 7, 8, 9, 127, 128, 1 << 32, most - 8, most - 1, most}
}

func wrongSeqs() []int64 {
	return []int64{0, -1, -2, -8, most + 1, most + 2, most + 8, 1 << 62, math.MinInt64, math.MinInt64 + 1, math.MinInt64 + 8, math.MaxInt64 - 8, math.MaxInt64 - 1, math.MaxInt64}
}

// wrongKeys are keys of none of so many brokers.
func wrongKeys(brokers int) []int {
	l := []int{-1, -2, -13, math.MinInt, math.MinInt + 1, math.MaxInt, math.MaxInt - 1, 64, 256, 1<<16 + 1, 1 << 32, 1 << 62}
	for k := brokers; k <= 33; k++ {
		l = append(l, k)
	}
	return l
}

// primary is told of views that may not be, too.
func (c cluster) primary(view int64) int {
	n := int64(c.brokers)
	return int((view%n + n) % n)
}

// all are the backups of a view; least are those with the least Keys, as many as have to prepare.
func (c cluster) all(view int64) []int {
	var l []int
	for k := range c.brokers {
		if k != c.primary(view) {
			l = append(l, k)
		}
	}
	return l
}

func (c cluster) least(view int64) []int {
	return c.all(view)[:c.backups]
}

// house is a table and a ledger.
type house struct {
	x *ideal.Table
	l *ideal.Ledger
}

func newHouse() house {
	return house{ideal.NewTable(), ideal.NewLedger()}
}

// sign is a key's signature over a vote, also over one that auth does not make; of a key that there is not, what it would be.
func (h house) sign(key, kind int, view, seq int64, d api.Digest) api.Sign {
	s := api.Sign{Key: key, Digest: h.x.Sum(auth.VoteBytes(kind, view, seq, d))}
	h.l.Sign(s.Key, s.Digest)
	return s
}

func (h house) prepare(key int, p api.Prepared) api.Sign {
	return h.sign(key, 3, p.View, p.Seq, p.Digest)
}

// learn is a batch's digest, which the table has from then on; also of a batch that may not be, of which nothing is put.
func (h house) learn(b api.Batch) api.Digest {
	return h.x.Sum(request.PutBatch(nil, b))
}

// cert is a certificate signed by the primary of its view, and by these backups.
func (h house) cert(c cluster, view, seq int64, b api.Batch, keys ...int) api.Prepared {
	return h.certOf(c, view, seq, h.learn(b), b, keys...)
}

// certOf has a digest that need not be its batch's.
func (h house) certOf(c cluster, view, seq int64, d api.Digest, b api.Batch, keys ...int) api.Prepared {
	p := api.Prepared{View: view, Seq: seq, Digest: d, First: h.sign(c.primary(view), 2, view, seq, d), Batch: b}
	for _, k := range keys {
		p.Signs = append(p.Signs, h.prepare(k, p))
	}
	return p
}

// good is a certificate that is valid, of some batch.
func (h house) good(c cluster, view, seq int64) api.Prepared {
	return h.cert(c, view, seq, h.batch(int(seq%3)), c.least(view)...)
}

// seal is a request that its client has signed.
func (h house) seal(x api.Request) api.Signed {
	s, e := request.Seal(h.x, h.l, x)
	if e != api.OK {
		panic(e)
	}
	return s
}

// batch is one of so many requests, all sealed.
func (h house) batch(many int) api.Batch {
	var b api.Batch
	for i := range many {
		b = append(b, h.seal(asked(i)))
	}
	return b
}

// asked are requests of several clients, one of them with two.
func asked(i int) api.Request {
	return []api.Request{
		{Client: 2, Time: 7, Op: publish("a", "", "bc")},
		{Client: 0, Time: 1, Op: api.Op{Kind: api.OpCreate, Topic: "größe"}},
		{Client: 2, Time: most, Op: api.Op{Kind: api.OpCommit, Topic: "t", Group: "g", Offset: 9}},
		{Client: 7, Time: 7},
		{Client: 6, Time: 2, Op: api.Op{Kind: api.OpTrim, Topic: "t", Offset: 3}},
	}[i]
}

func publish(l ...string) api.Op {
	o := api.Op{Kind: api.OpPublish, Topic: "t"}
	for _, x := range l {
		o.Records = append(o.Records, api.Record(x))
	}
	return o
}

// some is a certificate that only a Held is to keep, as it is not valid. No two of unlike n are the same.
func some(view, seq int64, n int) api.Prepared {
	p := api.Prepared{View: view, Seq: seq, Digest: api.Digest(n), First: api.Sign{Key: n, Digest: api.Digest(-n)}}
	for i := range n % 4 {
		p.Signs = append(p.Signs, api.Sign{Key: 9 - i, Digest: api.Digest(n)})
	}
	for i := range n % 7 { // more than a batch may have, among them such as may not be
		o := publish("ab", "", "c")
		o.Topic, o.Kind = o.Topic[:i%2], i
		p.Batch = append(p.Batch, api.Signed{Request: api.Request{Client: n - 3, Time: int64(i - 1), Op: o}, Sign: api.Sign{Key: i, Digest: api.Digest(n)}})
	}
	return p
}

func sameOp(a, b api.Op) bool {
	return a.Kind == b.Kind && a.Topic == b.Topic && a.Group == b.Group && a.Offset == b.Offset &&
		slices.EqualFunc(a.Records, b.Records, func(x, y api.Record) bool { return string(x) == string(y) })
}

func sameBatch(a, b api.Batch) bool {
	return slices.EqualFunc(a, b, func(x, y api.Signed) bool {
		return x.Request.Client == y.Request.Client && x.Request.Time == y.Request.Time && sameOp(x.Request.Op, y.Request.Op) && x.Sign == y.Sign
	})
}

func same(a, b api.Prepared) bool {
	return a.View == b.View && a.Seq == b.Seq && a.Digest == b.Digest && a.First == b.First && slices.Equal(a.Signs, b.Signs) && sameBatch(a.Batch, b.Batch)
}

func sameAll(a, b []api.Prepared) bool {
	return slices.EqualFunc(a, b, same)
}

func isZero(p api.Prepared) bool {
	return p.View == 0 && p.Seq == 0 && p.Digest == 0 && p.First == api.Sign{} && p.Signs == nil && p.Batch == nil
}

// copyOf is a certificate in memory of its own.
func copyOf(p api.Prepared) api.Prepared {
	p.Signs = append([]api.Sign(nil), p.Signs...)
	p.Batch = append(api.Batch(nil), p.Batch...)
	for i := range p.Batch {
		o := &p.Batch[i].Request.Op
		o.Records = append([]api.Record(nil), o.Records...)
		for j, r := range o.Records {
			o.Records[j] = append(api.Record(nil), r...)
		}
	}
	return p
}

func copyAll(l []api.Prepared) []api.Prepared {
	var all []api.Prepared
	for _, p := range l {
		all = append(all, copyOf(p))
	}
	return all
}

// arrangements are all orders in which a list can stand.
func arrangements[T any](l []T) [][]T {
	if len(l) == 0 {
		return [][]T{nil}
	}
	var all [][]T
	for i, x := range l {
		for _, rest := range arrangements(slices.Concat(l[:i], l[i+1:])) {
			all = append(all, append([]T{x}, rest...))
		}
	}
	return all
}

// enough tells where something that a test is about has hardly happened.
func enough(t *testing.T, what string, many, least int) {
	t.Helper()
	if many < least {
		t.Errorf("%s: only %d times", what, many)
	}
}
