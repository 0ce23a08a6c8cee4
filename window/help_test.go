package window_test

import (
	"math"
	"slices"
	"testing"

	"bulla/api"
	"bulla/request"
	"bulla/window"
)

// cluster is how many brokers there are and say something, told one by one.
type cluster struct{ f, brokers, big, backups int }

func clusters() []cluster {
	return []cluster{{1, 4, 3, 2}, {2, 7, 5, 4}, {3, 10, 7, 6}, {4, 13, 9, 8}}
}

// wrongFaults are numbers of faulty brokers that may not be.
func wrongFaults() []int {
	return []int{0, -1, -2, -4, 5, 6, 13, math.MinInt, math.MinInt + 1, math.MaxInt, 1<<8 + 1, 1<<32 + 1, 1<<62 + 1}
}

// someLows and wrongLows are numbers above which a window may begin, and others.
func someLows() []int64 {
	return []int64{0, 1, 2, 4, 7, 8, 100, 1<<31 - 4, 1<<32 - 4, 1<<53 - 17, 1<<53 - 10, 1<<53 - 9, 1<<53 - 8, 1<<53 - 7, 1<<53 - 2, 1<<53 - 1, 1 << 53}
}

func wrongLows() []int64 {
	return []int64{-1, -2, -8, -9, 1<<53 + 1, 1<<53 + 2, 1<<53 + 8, 1 << 62, math.MinInt64, math.MinInt64 + 1, math.MaxInt64, math.MaxInt64 - 1, math.MaxInt64 - 7, math.MaxInt64 - 8}
}

func someDigests() []api.Digest {
	return []api.Digest{1, 2, 5, 1 << 32, 1<<53 - 1, 1 << 53}
}

func wrongDigests() []api.Digest {
	return []api.Digest{-1, -2, -5, 0, 1<<53 + 1, 1<<53 + 5, 1 << 62, math.MinInt64, math.MinInt64 + 1, math.MaxInt64}
}

// wrongKeys are keys of none of so many brokers.
func wrongKeys(brokers int) []int {
	l := []int{-1, -2, -13, math.MinInt, math.MinInt + 1, math.MaxInt, math.MaxInt - 1, 64, 256, 1<<16 + 1, 1 << 32, 1 << 62}
	for k := brokers; k <= 33; k++ {
		l = append(l, k)
	}
	return l
}

// extremes are numbers that are in no window, wherever it begins.
func extremes() []int64 {
	return []int64{-1, 0, -8, 1<<53 + 1, 1<<53 + 8, math.MinInt64, math.MinInt64 + 1, math.MinInt64 + 8, math.MaxInt64, math.MaxInt64 - 1, math.MaxInt64 - 7, math.MaxInt64 - 8}
}

// near are the numbers that a window above low has, told one by one, and others around them.
func near(low int64) (in, out []int64) {
	for i := int64(-10); i <= 20; i++ {
		if n := low + i; i >= 1 && i <= 8 && n <= 1<<53 {
			in = append(in, n)
		} else {
			out = append(out, n)
		}
	}
	return in, append(out, extremes()...)
}

func sign(key int) api.Sign {
	return api.Sign{Key: key, Digest: api.Digest(key + 100)}
}

func signed(client int, time int64, o api.Op) api.Signed {
	return api.Signed{Request: api.Request{Client: client, Time: time, Op: o}, Sign: sign(13 + client)}
}

func publish(l ...string) api.Op {
	o := api.Op{Kind: api.OpPublish, Topic: "t"}
	for _, x := range l {
		o.Records = append(o.Records, api.Record(x))
	}
	return o
}

func someBatches() []api.Batch {
	none, create := api.Op{}, api.Op{Kind: api.OpCreate, Topic: "größe"}
	return []api.Batch{
		nil, {},
		{signed(0, 1, none)},
		{signed(7, 1<<53, create)},
		{signed(1, 5, publish("a", "", "bc"))},
		{signed(1, 5, publish("abcdefgh", "ijkl")), signed(1, 6, api.Op{Kind: api.OpCommit, Topic: "t", Group: "g", Offset: 9}), signed(2, 5, publish("mn")), signed(3, 5, create)},
	}
}

// wrongBatch is a batch that may not be, and what is said of it.
type wrongBatch struct {
	b api.Batch
	e api.Errno
}

func wrongBatches() []wrongBatch {
	o := publish("a")
	badSign := signed(1, 1, o)
	badSign.Sign.Key = 21
	noSign := signed(1, 1, o)
	noSign.Sign.Digest = 0
	return []wrongBatch{
		{api.Batch{signed(0, 1, o), signed(0, 2, o), signed(0, 3, o), signed(0, 4, o), signed(0, 5, o)}, 3},
		{make(api.Batch, 5), 3},
		{api.Batch{signed(0, 1, o), signed(8, 1, o)}, 80},
		{api.Batch{signed(-1, 1, o)}, 80},
		{api.Batch{signed(1, 0, o)}, 80},
		{api.Batch{signed(1, 1<<53+1, o)}, 80},
		{api.Batch{{}}, 80},
		{api.Batch{signed(1, 1, api.Op{Kind: 9})}, 60},
		{api.Batch{signed(1, 1, api.Op{Kind: api.OpCreate})}, 61},
		{api.Batch{signed(1, 1, publish())}, 62},
		{api.Batch{signed(1, 1, o), badSign}, 81},
		{api.Batch{noSign}, 81},
		{api.Batch{signed(1, 1, o), signed(2, 1, o), signed(1, 1, api.Op{})}, 5},
	}
}

// start is a new window that may be.
func start(t *testing.T, f int, low int64) *window.Window {
	t.Helper()
	w, e := window.New(f, low)
	if e != api.OK || w == nil {
		t.Fatalf("New(%d, %d) = %v, %d", f, low, w, e)
	}
	return w
}

func sameOp(a, b api.Op) bool {
	return a.Kind == b.Kind && a.Topic == b.Topic && a.Group == b.Group && a.Offset == b.Offset &&
		slices.EqualFunc(a.Records, b.Records, func(x, y api.Record) bool { return string(x) == string(y) })
}

func sameBatch(a, b api.Batch) bool {
	return slices.EqualFunc(a, b, func(x, y api.Signed) bool {
		return x.Request.Client == y.Request.Client && x.Request.Time == y.Request.Time && sameOp(x.Request.Op, y.Request.Op) && x.Sign == y.Sign
	})
}

func sameSlot(a, b api.Slot) bool {
	return a.Seq == b.Seq && a.Has == b.Has && a.Digest == b.Digest && a.First == b.First && sameBatch(a.Batch, b.Batch) &&
		slices.Equal(a.Prepares, b.Prepares) && slices.Equal(a.Commits, b.Commits)
}

func sameSlots(a, b []api.Slot) bool {
	return slices.EqualFunc(a, b, sameSlot)
}

func sameProof(a, b api.Prepared) bool {
	return a.View == b.View && a.Seq == b.Seq && a.Digest == b.Digest && a.First == b.First && slices.Equal(a.Signs, b.Signs) && sameBatch(a.Batch, b.Batch)
}

// copySlots is slots in memory of their own.
func copySlots(l []api.Slot) []api.Slot {
	l = slices.Clone(l)
	for i, s := range l {
		l[i].Batch, l[i].Prepares, l[i].Commits = request.Clone(s.Batch), slices.Clone(s.Prepares), slices.Clone(s.Commits)
	}
	return l
}

// all is what All tells.
func all(w *window.Window) []api.Slot {
	return slices.Collect(w.All())
}

// votes are votes for one digest by these keys.
func votes(d api.Digest, keys ...int) []api.VoteOf {
	var l []api.VoteOf
	for _, k := range keys {
		l = append(l, api.VoteOf{Digest: d, Sign: sign(k)})
	}
	return l
}

// upTo are the numbers from 0 on, so many.
func upTo(n int) []int {
	var l []int
	for i := range n {
		l = append(l, i)
	}
	return l
}
