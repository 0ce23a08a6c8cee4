package prepared_test

import (
	"math"
	"math/rand"
	"runtime"
	"slices"
	"strconv"
	"testing"

	"bulla/api"
	"bulla/ideal"
	"bulla/prepared"
	"bulla/request"
)

// valid holds Valid, and Above of the one alone, against what they have to say, and against that they change nothing.
func (h house) valid(t *testing.T, f int, p api.Prepared, want bool) {
	t.Helper()
	first, sums, signed := copyOf(p), h.x.Len(), h.l.Len()
	for range 2 {
		if is := prepared.Valid(h.x, h.l, f, p); is != want {
			t.Fatalf("Valid(%d, %+v) = %v", f, p, is)
		}
	}
	view, low := p.View, p.Seq
	if view < math.MaxInt64 {
		view++
	}
	if low > math.MinInt64 {
		low--
	}
	if is := prepared.Above(h.x, h.l, f, view, low, p); is != want {
		t.Fatalf("Above(%d, %d, %d, %+v) = %v", f, view, low, p, is)
	}
	if !same(p, first) || h.x.Len() != sums || h.l.Len() != signed {
		t.Fatalf("Valid(%d, %+v) has changed what it was handed", f, first)
	}
}

// P15.1: each view and number, whichever backups have prepared.
func TestValid(t *testing.T) {
	for _, c := range clusters() {
		h := newHouse()
		for _, view := range someViews() {
			for _, seq := range someSeqs() {
				h.valid(t, c.f, h.good(c, view, seq), true)
			}
		}
		dice := rand.New(rand.NewSource(int64(c.f)))
		for view := range int64(2 * c.brokers) {
			for range 12 {
				l := c.all(view)
				dice.Shuffle(len(l), func(i, j int) { l[i], l[j] = l[j], l[i] })
				l = l[:c.backups]
				slices.Sort(l)
				h.valid(t, c.f, h.cert(c, view, 3, h.batch(1), l...), true)
			}
			h.valid(t, c.f, h.cert(c, view, 3, nil, c.all(view)[c.brokers-1-c.backups:]...), true)
		}
	}
}

// P15.1: batches of as many requests as may be.
func TestValidBatches(t *testing.T) {
	for _, c := range clusters() {
		h := newHouse()
		for many := range 6 {
			h.valid(t, c.f, h.cert(c, 2, 3, h.batch(many), c.least(2)...), many <= 4)
		}
		h.valid(t, c.f, h.cert(c, 2, 3, api.Batch{}, c.least(2)...), true)
		b := h.batch(4)
		for _, l := range arrangements([]api.Signed{b[0], b[1], b[2], b[3]}) {
			h.valid(t, c.f, h.cert(c, 2, 3, l, c.least(2)...), true)
		}
		p := h.cert(c, 2, 3, b, c.least(2)...)
		p.Batch = api.Batch{b[1], b[0], b[2], b[3]} // of another order than what was signed
		h.valid(t, c.f, p, false)
	}
}

// The chapter's example.
func TestValidExample(t *testing.T) {
	h, c := newHouse(), clusters()[0]
	h.valid(t, 1, h.cert(c, 0, 1, nil, 1, 3), true)
	h.valid(t, 1, h.cert(c, 0, 1, nil, 0, 1), false)
	h.valid(t, 1, h.cert(c, 0, 1, nil, 1), false)
}

// P15.1: an f that may not be, or another one.
func TestValidWrongFaults(t *testing.T) {
	h := newHouse()
	for _, a := range clusters() {
		p := h.good(a, 0, 3)
		for _, f := range wrongFaults() {
			h.valid(t, f, p, false)
			h.valid(t, f, api.Prepared{}, false)
			h.valid(t, f, h.cert(a, 0, 3, nil), false)
			h.valid(t, f, h.certOf(a, 0, 3, h.learn(nil), nil, 1), false)
		}
		for _, b := range clusters() {
			h.valid(t, b.f, p, a == b)
		}
	}
}

// P15.1: a table or a ledger that no call made, or of other calls.
func TestValidUnmade(t *testing.T) {
	for _, c := range clusters() {
		h, other := newHouse(), newHouse()
		other.learn(h.batch(2))
		for _, seq := range []int64{1, 3} {
			p := h.good(c, 1, seq)
			for _, bad := range []house{{nil, h.l}, {h.x, nil}, {nil, nil}, {&ideal.Table{}, h.l}, {h.x, &ideal.Ledger{}}, {&ideal.Table{}, &ideal.Ledger{}}, {other.x, h.l}, {h.x, other.l}, newHouse()} {
				bad.valid(t, c.f, p, false)
				bad.valid(t, c.f, api.Prepared{}, false)
				bad.valid(t, 0, p, false)
			}
			h.valid(t, c.f, p, true)
			house{h.x.Clone(), h.l.Clone()}.valid(t, c.f, p, true)
		}
	}
}

// P15.1: the zero certificate, and one with a single field.
func TestValidOfNone(t *testing.T) {
	for _, c := range clusters() {
		h := newHouse()
		h.valid(t, c.f, api.Prepared{}, false)
		p := h.good(c, 1, 1)
		h.valid(t, c.f, api.Prepared{}, false)
		h.valid(t, c.f, api.Prepared{Seq: 1}, false)
		h.valid(t, c.f, api.Prepared{Seq: 1, Digest: h.learn(nil)}, false)
		for _, less := range []func(p *api.Prepared){
			func(p *api.Prepared) { p.View = 0 },
			func(p *api.Prepared) { p.Seq = 0 },
			func(p *api.Prepared) { p.Digest = 0 },
			func(p *api.Prepared) { p.First = api.Sign{} },
			func(p *api.Prepared) { p.Signs = nil },
			func(p *api.Prepared) { p.Signs = []api.Sign{} },
			func(p *api.Prepared) { p.Batch = nil },
		} {
			x := copyOf(p)
			less(&x)
			h.valid(t, c.f, x, false)
		}
	}
}

// P15.1: views and numbers that may not be, also where they are signed, and others than what was signed.
func TestValidWrongNumbers(t *testing.T) {
	for _, c := range clusters() {
		h := newHouse()
		for _, view := range wrongViews() {
			h.valid(t, c.f, h.good(c, view, 3), false)
			for leads := range c.brokers { // whoever would lead there
				p := h.good(c, view, 3)
				p.First = h.sign(leads, 2, view, 3, p.Digest)
				h.valid(t, c.f, p, false)
			}
		}
		for _, seq := range wrongSeqs() {
			h.valid(t, c.f, h.good(c, 1, seq), false)
		}
		for _, view := range append(someViews(), wrongViews()...) {
			p := h.good(c, 5, 3)
			p.View = view
			h.valid(t, c.f, p, view == 5)
			p.View = 5 + int64(c.brokers) // of the same primary
			h.valid(t, c.f, p, false)
		}
		for _, seq := range append(someSeqs(), wrongSeqs()...) {
			p := h.good(c, 5, 3)
			p.Seq = seq
			h.valid(t, c.f, p, seq == 3)
		}
	}
}

// wrongBatches are such as request.ValidBatch does not take.
func (h house) wrongBatches() []api.Batch {
	b := h.batch(4)
	with := func(do func(x *api.Signed)) api.Batch {
		l := copyOf(api.Prepared{Batch: b}).Batch
		do(&l[0])
		return l
	}
	return []api.Batch{
		h.batch(5),
		make(api.Batch, 5),
		{{}},
		{b[0], {}},
		{b[0], b[0]},
		{b[0], b[1], b[2], b[0]},
		with(func(x *api.Signed) { x.Sign.Digest = 0 }),
		with(func(x *api.Signed) { x.Sign.Digest++ }),
		with(func(x *api.Signed) { x.Sign = b[1].Sign }),
		with(func(x *api.Signed) { x.Sign.Key = 2 }),
		with(func(x *api.Signed) { x.Sign.Key++ }),
		with(func(x *api.Signed) { x.Sign.Key = 21 }),
		with(func(x *api.Signed) { x.Request.Client++ }),
		with(func(x *api.Signed) { x.Request.Client = 8 }),
		with(func(x *api.Signed) { x.Request.Client = -1 }),
		with(func(x *api.Signed) { x.Request.Time = 0 }),
		with(func(x *api.Signed) { x.Request.Time++ }),
		with(func(x *api.Signed) { x.Request.Op = publish("a", "", "bd") }),
		with(func(x *api.Signed) { x.Request.Op = publish() }),
		with(func(x *api.Signed) { x.Request.Op.Topic = "u" }),
		with(func(x *api.Signed) { x.Request.Op.Topic = "" }),
		with(func(x *api.Signed) { x.Request.Op.Kind = 9 }),
	}
}

// P15.1: a batch that may not be, or whose requests nobody has signed, whatever the votes are for.
func TestValidWrongBatch(t *testing.T) {
	for _, c := range clusters() {
		h := newHouse()
		for _, b := range h.wrongBatches() {
			h.valid(t, c.f, h.cert(c, 1, 3, b, c.least(1)...), false)
			h.valid(t, c.f, h.certOf(c, 1, 3, h.learn(nil), b, c.least(1)...), false)
			h.valid(t, c.f, h.certOf(c, 1, 3, h.x.Sum(nil), b, c.least(1)...), false) // what is put of a batch that may not be
			h.valid(t, c.f, h.certOf(c, 1, 3, 0, b, c.least(1)...), false)
			p := h.cert(c, 1, 3, h.batch(4), c.least(1)...)
			p.Batch = b
			h.valid(t, c.f, p, false)
		}
		h = newHouse()
		unsealed := h.batch(1) // its bytes are known, and its signature would be the client's
		x := asked(3)
		b, _ := request.Bytes(x)
		unsealed[0] = api.Signed{Request: x, Sign: api.Sign{Key: request.Key(x.Client), Digest: h.x.Sum(b)}}
		h.valid(t, c.f, h.cert(c, 1, 3, unsealed, c.least(1)...), false)
		h.seal(x)
		h.valid(t, c.f, h.cert(c, 1, 3, unsealed, c.least(1)...), true)
	}
}

// P15.1: a batch that the table has not learnt has no digest, not even 0; it has not learnt it by Valid.
func TestValidUnlearnt(t *testing.T) {
	for _, c := range clusters() {
		for many := range 5 {
			h := newHouse()
			b := h.batch(many)
			for _, d := range []api.Digest{0, 1, 2, api.Digest(h.x.Len()), api.Digest(h.x.Len() + 1)} {
				p := h.certOf(c, 1, 3, d, b, c.least(1)...)
				h.valid(t, c.f, p, false)
				p.Digest = api.Digest(h.x.Len() + 1) // what it would be now
				h.valid(t, c.f, p, false)
			}
			if _, known := h.x.Look(request.PutBatch(nil, b)); known {
				t.Errorf("a table has learnt the batch of %d", many)
			}
			h.valid(t, c.f, h.cert(c, 1, 3, b, c.least(1)...), true)
		}
	}
}

// P15.1: a digest that is not the batch's, whoever has signed it.
func TestValidOtherDigest(t *testing.T) {
	for _, c := range clusters() {
		h := newHouse()
		b, other := h.batch(2), h.batch(3)
		right := h.learn(b)
		for _, d := range []api.Digest{0, 1, right - 1, right + 1, -right, right + 1<<32, h.learn(other), h.learn(nil), -1, most, most + 1, math.MinInt64, math.MaxInt64} {
			h.valid(t, c.f, h.certOf(c, 1, 3, d, b, c.least(1)...), d == right)
			p := h.cert(c, 1, 3, b, c.least(1)...)
			p.Digest = d
			h.valid(t, c.f, p, d == right)
			p = h.cert(c, 1, 3, other, c.least(1)...) // votes for the digest that stands there, with another batch
			p.Batch = b
			h.valid(t, c.f, p, false)
		}
	}
}

// otherVotes hands with signatures of a key that say nearly what they should, and as such as should stand there.
func (h house) otherVotes(p api.Prepared, key, kind int, with func(api.Sign)) {
	for other := range 14 {
		with(h.sign(key, other, p.View, p.Seq, p.Digest))
	}
	for _, n := range []int64{-1, 0, 1, 2, 3, 4, 5, 6, 7, most, most + 1, p.View + 1, p.View - 1} {
		with(h.sign(key, kind, n, p.Seq, p.Digest))
		with(h.sign(key, kind, p.View, n, p.Digest))
		with(h.sign(key, kind, p.View, p.Seq, api.Digest(n)))
	}
	right := h.sign(key, kind, p.View, p.Seq, p.Digest)
	for _, n := range []api.Digest{0, 1, -1, p.Digest, right.Digest + 1, right.Digest - 1, -right.Digest, most, math.MinInt64, math.MaxInt64} {
		with(api.Sign{Key: key, Digest: n})
	}
	for k := range 22 {
		with(h.sign(k, kind, p.View, p.Seq, p.Digest))
	}
	for _, k := range wrongKeys(21) {
		with(api.Sign{Key: k, Digest: right.Digest})
	}
	with(h.sign(key, p.First.Key, p.View, p.Seq, p.Digest))
	with(h.sign(key, kind, p.Seq, p.View, p.Digest))
	with(p.First)
	with(api.Sign{})
	with(right)
}

// P15.1: the primary's signature, of whatever else.
func TestValidFirst(t *testing.T) {
	for _, c := range clusters() {
		for _, view := range []int64{0, 1, 6} {
			h := newHouse()
			p := h.cert(c, view, 5, h.batch(1), c.least(view)...)
			h.otherVotes(p, p.First.Key, 2, func(s api.Sign) {
				t.Helper()
				x := copyOf(p)
				x.First = s
				h.valid(t, c.f, x, s == p.First)
			})
		}
	}
}

// P15.1: one of the backups' signatures, of whatever else, in whichever place. (Another backup's may stand there, where they still rise.)
func TestValidSigns(t *testing.T) {
	for _, c := range clusters() {
		const view = 6
		h := newHouse()
		p := h.cert(c, view, 5, h.batch(1), c.least(view)...)
		for i, own := range p.Signs {
			may := map[int]bool{own.Key: true}
			for _, k := range c.all(view) {
				may[k] = may[k] || i == len(p.Signs)-1 && k > own.Key
			}
			h.otherVotes(p, own.Key, 3, func(s api.Sign) {
				t.Helper()
				x := copyOf(p)
				x.Signs[i] = s
				h.valid(t, c.f, x, s.Digest == own.Digest && may[s.Key])
			})
		}
	}
}

// P15.1: who has signed nothing, where all others have.
func TestValidSilent(t *testing.T) {
	for _, c := range clusters() {
		for silent := range c.brokers {
			h := newHouse()
			p := api.Prepared{View: 1, Seq: 3, Digest: h.learn(nil)}
			sign := func(key, kind int) api.Sign {
				if key != silent {
					return h.sign(key, kind, 1, 3, p.Digest)
				}
				h.sign(key, 5-kind, 1, 3, p.Digest) // the other kind
				return api.Sign{Key: key, Digest: h.sign((key+1)%c.brokers, kind, 1, 3, p.Digest).Digest}
			}
			p.First = sign(1, 2)
			for _, k := range c.least(1) {
				p.Signs = append(p.Signs, sign(k, 3))
			}
			h.valid(t, c.f, p, silent != 1 && !slices.Contains(c.least(1), silent))
			h.prepare(silent, p)
			h.valid(t, c.f, p, silent != 1)
			h.sign(silent, 2, 1, 3, p.Digest)
			h.valid(t, c.f, p, true)
		}
	}
}

// P15.1: just 2f backups, rising.
func TestValidWrongKeys(t *testing.T) {
	for _, c := range clusters() {
		for _, view := range []int64{0, 1, int64(c.brokers - 1)} {
			h := newHouse()
			all, leads := c.all(view), c.primary(view)
			try := func(want bool, keys ...int) {
				t.Helper()
				h.valid(t, c.f, h.cert(c, view, 3, nil, keys...), want)
			}
			for n := range len(all) + 1 {
				try(n == c.backups, all[:n]...)
				try(n == c.backups, all[len(all)-n:]...)
			}
			l := c.least(view)
			for i := range l {
				for j := range l {
					x := slices.Clone(l)
					x[i], x[j] = x[j], x[i]
					try(i == j, x...)
					x = slices.Clone(l)
					x[i] = x[j]
					try(i == j, x...)
					try(false, slices.Insert(slices.Clone(l), i, l[j])...)
				}
				try(false, slices.Delete(slices.Clone(l), i, i+1)...)
				x := slices.Clone(l)
				x[i] = leads
				try(false, x...)
				slices.Sort(x)
				try(false, x...)
				try(false, slices.Insert(slices.Clone(l), i, leads)...)
				for _, k := range wrongKeys(c.brokers) {
					x[i] = k
					try(false, x...)
				}
			}
			for _, k := range wrongKeys(c.brokers) {
				try(false, append([]int{k}, l[1:]...)...)
				try(false, append([]int{k}, l...)...)
				try(false, append(slices.Clone(l[1:]), k)...)
				try(false, append(slices.Clone(l), k)...)
			}
			try(false, append(append([]int{}, l...), l...)...)
			try(c.primary(view) != c.brokers-1, append(slices.Clone(l[:c.backups-1]), c.brokers-1)...) // the greatest there is
			try(c.primary(view) != 0, append([]int{0}, all[len(all)-c.backups+1:]...)...)              // the least
		}
	}
}

// P15.1, P15.2: whatever they are handed, neither table nor ledger is changed.
func TestValidOnlyLooks(t *testing.T) {
	h, c := newHouse(), clusters()[0]
	p := h.good(c, 5, 2)
	fresh := newHouse()
	handed := []api.Prepared{{}, p, fresh.good(c, 5, 2), fresh.good(c, 6, 4), fresh.good(c, 0, 3), fresh.good(clusters()[3], 0, 3), some(1, 2, 3), some(1, 2, 13)}
	for _, b := range fresh.wrongBatches() {
		handed = append(handed, fresh.cert(c, 5, 3, b, 0, 2))
	}
	sums, signs := h.x.Plain(), h.l.Signs()
	for _, p := range handed {
		for _, f := range append(wrongFaults(), 1, 2, 3, 4) {
			prepared.Valid(h.x, h.l, f, p)
			prepared.Above(h.x, h.l, f, 9, 0, p)
			prepared.Above(h.x, h.l, f, 9, 0, handed...)
		}
	}
	if !slices.EqualFunc(h.x.Plain(), sums, slices.Equal[[]byte]) || !slices.Equal(h.l.Signs(), signs) {
		t.Error("table or ledger are changed")
	}
}

// right tells whether a certificate is valid, in the chapter's words, one behind the other.
func (h house) right(c cluster, p api.Prepared) bool {
	d, known := h.x.Look(request.PutBatch(nil, p.Batch))
	said := func(s api.Sign, kind int) bool {
		return h.l.Signed(s) && s == h.sign(s.Key, kind, p.View, p.Seq, p.Digest)
	}
	switch {
	case p.View < 0 || p.View > most || p.Seq < 1 || p.Seq > most:
		return false
	case !request.ValidBatch(h.x, h.l, p.Batch) || !known || d != p.Digest:
		return false
	case p.First.Key != c.primary(p.View) || !said(p.First, 2) || len(p.Signs) != c.backups:
		return false
	}
	for i, s := range p.Signs {
		if !slices.Contains(c.all(p.View), s.Key) || !said(s, 3) || i > 0 && p.Signs[i-1].Key >= s.Key {
			return false
		}
	}
	return true
}

// change changes a certificate somehow: mostly so that it is valid no more.
func (h house) change(dice *rand.Rand, c cluster, p *api.Prepared) {
	i, j := dice.Intn(len(p.Signs)+1), dice.Intn(len(p.Signs)+1)
	if i == len(p.Signs) || j == len(p.Signs) {
		p.Signs = slices.Insert(p.Signs, min(i, j), h.prepare(dice.Intn(c.brokers+1), *p))
		return
	}
	switch dice.Intn(16) {
	case 0:
		p.View += int64(dice.Intn(3) - 1)
	case 1:
		p.Seq += int64(dice.Intn(3) - 1)
	case 2:
		p.Digest = h.learn(h.batch(dice.Intn(3)))
	case 3:
		p.Batch = h.batch(dice.Intn(6))
	case 4:
		p.First = h.sign(dice.Intn(c.brokers), 2+dice.Intn(2), p.View, p.Seq, p.Digest)
	case 5:
		p.Signs[i] = h.sign(p.Signs[i].Key, 2+dice.Intn(2), p.View, p.Seq, p.Digest)
	case 6:
		p.Signs[i], p.Signs[j] = p.Signs[j], p.Signs[i]
	case 7:
		p.Signs[i].Key = p.Signs[j].Key
	case 8:
		p.Signs = slices.Delete(p.Signs, i, i+1)
	case 9:
		p.Signs[i] = h.prepare(dice.Intn(c.brokers+2)-1, *p)
	default: // again by as many as should
		*p = h.certOf(c, max(p.View, 0), p.Seq, p.Digest, p.Batch, c.least(max(p.View, 0))...)
	}
}

// P15.1: certificates with a few changes, held against the chapter's words.
func TestValidChanged(t *testing.T) {
	for _, c := range clusters() {
		yes, no := 0, 0
		for seed := range int64(40) {
			dice := rand.New(rand.NewSource(seed))
			h := newHouse()
			p := h.good(c, dice.Int63n(20), 1+dice.Int63n(5))
			for range 80 {
				h.change(dice, c, &p)
				want := h.right(c, p)
				h.valid(t, c.f, p, want)
				if want {
					yes++
				} else {
					no++
				}
			}
		}
		enough(t, "valid", yes, 100)
		enough(t, "not valid", no, 500)
	}
}

func allocated(do func()) uint64 {
	var a, b runtime.MemStats
	runtime.ReadMemStats(&a)
	do()
	runtime.ReadMemStats(&b)
	return b.TotalAlloc - a.TotalAlloc
}

// THE BOUND: neither is what a table and a ledger hold gone through, nor a list that is longer than may be.
func TestValidNearLinear(t *testing.T) {
	h, c := newHouse(), clusters()[3]
	for i := range 1 << 16 {
		h.x.Sum([]byte("filler " + strconv.Itoa(i)))
		h.l.Sign(i%api.MaxKeys, api.Digest(1+i))
	}
	p := h.cert(c, 0, 3, h.batch(4), c.least(0)...)
	long, longBatch := copyOf(p), copyOf(p)
	long.Signs = make([]api.Sign, 1<<20)
	longBatch.Batch = make(api.Batch, 1<<16)
	for i := range long.Signs {
		long.Signs[i] = api.Sign{Key: i + 1, Digest: p.Signs[0].Digest}
	}
	many := make([]api.Prepared, 1<<16)
	for i := range many {
		many[i] = p
	}
	if n := allocated(func() {
		for range 100 {
			if !prepared.Valid(h.x, h.l, 4, p) || prepared.Valid(h.x, h.l, 4, long) || prepared.Valid(h.x, h.l, 4, longBatch) || prepared.Above(h.x, h.l, 4, 1, 0, many...) {
				t.Error("what is too long is taken, or what is not is refused")
			}
		}
	}); n > 1<<23 {
		t.Errorf("%d bytes of memory", n)
	}
}
