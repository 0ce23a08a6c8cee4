package point_test

import (
	"math"
	"slices"
	"testing"

	"bulla/api"
	"bulla/point"
)

const most = 1 << 53

// cluster is how many brokers there are and say something, told one by one.
type cluster struct{ f, brokers, big int }

func clusters() []cluster {
	return []cluster{{1, 4, 3}, {2, 7, 5}, {3, 10, 7}, {4, 13, 9}}
}

// wrongFaults are numbers of faulty brokers that may not be.
func wrongFaults() []int {
	return []int{0, -1, -2, -4, 5, 6, 13, math.MinInt, math.MinInt + 1, math.MaxInt, 1<<8 + 1, 1<<32 + 1, 1<<62 + 1}
}

// someSeqs are numbers of checkpoints, rising, wrongSeqs are such as none has.
func someSeqs() []int64 {
	return []int64{4, 8, 12, 128, 1 << 32, 1<<32 + 4, most - 8, most - 4, most}
}

func wrongSeqs() []int64 {
	return []int64{-1, -4, -8, 1, 2, 3, 5, 6, 7, 9, 127, 1<<32 + 1, 1<<32 + 2, most - 1, most - 2, most - 3, most + 1, most + 4, most + 8, 1 << 62, math.MinInt64, math.MinInt64 + 4, math.MaxInt64, math.MaxInt64 - 3}
}

func someDigests() []api.Digest {
	return []api.Digest{1, 2, 9, 1 << 32, most - 1, most}
}

func wrongDigests() []api.Digest {
	return []api.Digest{-1, -2, -9, 0, most + 1, most + 9, 1 << 62, math.MinInt64, math.MinInt64 + 1, math.MaxInt64}
}

// wrongKeys are keys of none of so many brokers.
func wrongKeys(brokers int) []int {
	l := []int{-1, -2, -13, math.MinInt, math.MinInt + 1, math.MaxInt, math.MaxInt - 1, 64, 256, 1<<16 + 1, 1 << 32, 1 << 62}
	for k := brokers; k <= 33; k++ {
		l = append(l, k)
	}
	return l
}

// someSigned are what a signature may be over here: whatever it says.
func someSigned() []api.Digest {
	return []api.Digest{0, 1, -1, 7, most, most + 1, math.MinInt64, math.MaxInt64}
}

func vote(key int, seq int64, d api.Digest) api.Vote {
	return api.Vote{Seq: seq, Digest: d, Sign: sign(key)}
}

func sign(key int) api.Sign {
	return api.Sign{Key: key, Digest: api.Digest(key + 100)}
}

func signs(keys ...int) []api.Sign {
	var l []api.Sign
	for _, k := range keys {
		l = append(l, sign(k))
	}
	return l
}

// cert is a certificate with signatures by these keys.
func cert(seq int64, d api.Digest, keys ...int) api.Cert {
	return api.Cert{Seq: seq, Digest: d, Signs: signs(keys...)}
}

// enough is a certificate with as many signatures as it needs.
func (c cluster) enough(seq int64, d api.Digest) api.Cert {
	return cert(seq, d, upTo(c.big)...)
}

// upTo are the numbers from 0 on, so many.
func upTo(n int) []int {
	var l []int
	for i := range n {
		l = append(l, i)
	}
	return l
}

// wrongCerts are such as may not be here, whatever is stable.
func (c cluster) wrongCerts() []api.Cert {
	l := []api.Cert{
		{Digest: 1}, {Digest: -1}, {Signs: signs(0)}, cert(0, 0, upTo(c.big)...), c.enough(0, 9), // of Seq 0, with anything else
		cert(4, 9), cert(4, 9, upTo(c.big-1)...), cert(4, 9, upTo(c.brokers+1)...), {Seq: 4},
		cert(4, 9, append(upTo(c.big), c.big-1)...), // twice by one
		cert(4, 9, append([]int{0}, upTo(c.big)...)...),
		cert(4, 9, append([]int{c.brokers - 1}, upTo(c.big)...)...), // not rising
		cert(4, 9, append(upTo(c.big), 0)...),
	}
	for i := 1; i < c.big; i++ {
		keys := upTo(c.big)
		keys[i-1], keys[i] = i, i-1
		l = append(l, cert(4, 9, keys...))
	}
	for _, seq := range wrongSeqs() {
		l = append(l, c.enough(seq, 9), api.Cert{Seq: seq})
	}
	for _, d := range wrongDigests() {
		l = append(l, c.enough(4, d))
	}
	for _, k := range wrongKeys(c.brokers) {
		l = append(l, cert(4, 9, append([]int{k}, upTo(c.big-1)...)...), cert(4, 9, append(upTo(c.big-1), k)...), cert(4, 9, append(upTo(c.big), k)...))
	}
	return l
}

// rightCerts are such as may be here, but for that of Seq 0.
func (c cluster) rightCerts() []api.Cert {
	var l []api.Cert
	for _, seq := range someSeqs() {
		for _, d := range someDigests() {
			l = append(l, c.enough(seq, d))
		}
	}
	for n := c.big; n <= c.brokers; n++ {
		l = append(l, cert(4, 9, upTo(n)...), cert(4, 9, upTo(c.brokers)[c.brokers-n:]...))
	}
	for _, d := range someSigned() { // what signatures are over is not asked
		x := c.enough(4, 9)
		x.Signs[1].Digest = d
		l = append(l, x)
	}
	return l
}

// start is points of an f that may be, without votes.
func start(t *testing.T, f int) *point.Points {
	t.Helper()
	p, e := point.New(f)
	if e != api.OK || p == nil {
		t.Fatalf("New(%d) = %v, %d", f, p, e)
	}
	return p
}

func sameCert(a, b api.Cert) bool {
	return a.Seq == b.Seq && a.Digest == b.Digest && slices.Equal(a.Signs, b.Signs)
}

func isZero(c api.Cert) bool {
	return c.Seq == 0 && c.Digest == 0 && c.Signs == nil
}

func samePlain(a, b api.Points) bool {
	return sameCert(a.Stable, b.Stable) && slices.Equal(a.Votes, b.Votes) && slices.EqualFunc(a.Certs, b.Certs, sameCert)
}

// copyCert is a certificate in memory of its own.
func copyCert(c api.Cert) api.Cert {
	c.Signs = append([]api.Sign(nil), c.Signs...)
	return c
}

func copyPlain(p api.Points) api.Points {
	q := api.Points{Stable: copyCert(p.Stable), Votes: append([]api.Vote(nil), p.Votes...)}
	for _, c := range p.Certs {
		q.Certs = append(q.Certs, copyCert(c))
	}
	return q
}

// arrangements are all orders in which a list can stand.
func arrangements(l []int) [][]int {
	if len(l) == 0 {
		return [][]int{nil}
	}
	var all [][]int
	for i, x := range l {
		for _, rest := range arrangements(slices.Concat(l[:i], l[i+1:])) {
			all = append(all, append([]int{x}, rest...))
		}
	}
	return all
}
