package point_test

import (
	"fmt"
	"math/rand"
	"testing"

	"bulla/api"
	"bulla/point"
)

// model is points told as plainly as can be: votes and certificates in the order in which they came.
type model struct {
	c      cluster
	stable api.Cert
	votes  []api.Vote
	certs  []api.Cert
}

func mayBoth(seq int64, d api.Digest) bool {
	return seq > 0 && seq <= most && seq%4 == 0 && d > 0 && d <= most
}

func (c cluster) mayVote(v api.Vote) bool {
	return mayBoth(v.Seq, v.Digest) && v.Sign.Key >= 0 && v.Sign.Key < c.brokers
}

func (c cluster) mayCert(x api.Cert) bool {
	if x.Seq == 0 {
		return x.Digest == 0 && len(x.Signs) == 0
	}
	if !mayBoth(x.Seq, x.Digest) || len(x.Signs) < c.big || len(x.Signs) > c.brokers {
		return false
	}
	for i, s := range x.Signs {
		if s.Key < 0 || s.Key >= c.brokers || i > 0 && x.Signs[i-1].Key >= s.Key {
			return false
		}
	}
	return true
}

// lessVote tells whether a is told ahead of b.
func lessVote(a, b api.Vote) bool {
	if a.Sign.Key != b.Sign.Key {
		return a.Sign.Key < b.Sign.Key
	}
	if a.Seq != b.Seq {
		return a.Seq < b.Seq
	}
	return a.Digest < b.Digest
}

// least is the place of the vote of a broker that goes first, and how many it has.
func (m *model) least(key int) (at, many int) {
	at = -1
	for i, v := range m.votes {
		if v.Sign.Key != key {
			continue
		}
		many++
		if at < 0 || lessVote(v, m.votes[at]) {
			at = i
		}
	}
	return at, many
}

// settled lets go what is not above the stable one.
func (m *model) settled() {
	var votes []api.Vote
	for _, v := range m.votes {
		if v.Seq > m.stable.Seq {
			votes = append(votes, v)
		}
	}
	var certs []api.Cert
	for _, c := range m.certs {
		if c.Seq > m.stable.Seq {
			certs = append(certs, c)
		}
	}
	m.votes, m.certs = votes, certs
}

// keep tells what happens to a vote: refused, below, twice, low (there is no room), pushed (into the place of another one), or kept.
func (m *model) keep(v api.Vote) string {
	if !m.c.mayVote(v) {
		return "refused"
	}
	if v.Seq <= m.stable.Seq {
		return "below"
	}
	for _, w := range m.votes {
		if w.Sign.Key == v.Sign.Key && w.Seq == v.Seq && w.Digest == v.Digest {
			return "twice"
		}
	}
	how := "kept"
	at, many := m.least(v.Sign.Key)
	if many >= 4 {
		if m.votes[at].Seq >= v.Seq {
			return "low"
		}
		m.votes = append(m.votes[:at:at], m.votes[at+1:]...)
		how = "pushed"
	}
	m.votes = append(m.votes, v)
	return how
}

func (m *model) knows(seq int64, d api.Digest) bool {
	for _, c := range m.certs {
		if c.Seq == seq && c.Digest == d {
			return true
		}
	}
	return false
}

// vote answers what Vote does, and what happened.
func (m *model) vote(v api.Vote) (api.Cert, bool, string) {
	how := m.keep(v)
	if how != "kept" && how != "pushed" {
		return api.Cert{}, false, how
	}
	c := api.Cert{Seq: v.Seq, Digest: v.Digest}
	for key := range m.c.brokers {
		for _, w := range m.votes {
			if w.Sign.Key == key && w.Seq == v.Seq && w.Digest == v.Digest {
				c.Signs = append(c.Signs, w.Sign)
			}
		}
	}
	if len(c.Signs) < m.c.big {
		return api.Cert{}, false, how
	}
	if m.knows(v.Seq, v.Digest) {
		return api.Cert{}, false, "more"
	}
	m.certs = append(m.certs, copyCert(c))
	return c, true, "told"
}

func (m *model) know(c api.Cert) bool {
	if !m.c.mayCert(c) || c.Seq <= m.stable.Seq {
		return false
	}
	if _, there := m.at(c.Seq); there {
		return false
	}
	m.certs = append(m.certs, copyCert(c))
	return true
}

func (m *model) settle(c api.Cert) api.Errno {
	if !m.c.mayCert(c) || c.Seq <= m.stable.Seq {
		return 1
	}
	m.stable = copyCert(c)
	m.settled()
	return 0
}

func (m *model) at(seq int64) (api.Cert, bool) {
	if seq == m.stable.Seq {
		return m.stable, true
	}
	for _, c := range m.certs {
		if c.Seq == seq {
			return c, true
		}
	}
	return api.Cert{}, false
}

func (m *model) best() (api.Cert, bool) {
	var best api.Cert
	for _, c := range m.certs {
		if c.Seq > best.Seq {
			best = c
		}
	}
	return best, best.Seq > 0
}

// plain puts the least one that is left behind the others, again and again.
func (m *model) plain() api.Points {
	p := api.Points{Stable: copyCert(m.stable)}
	votes := append([]api.Vote(nil), m.votes...)
	for len(votes) > 0 {
		at := 0
		for i, v := range votes {
			if lessVote(v, votes[at]) {
				at = i
			}
		}
		p.Votes = append(p.Votes, votes[at])
		votes = append(votes[:at], votes[at+1:]...)
	}
	certs := append([]api.Cert(nil), m.certs...)
	for len(certs) > 0 {
		at := 0
		for i, c := range certs {
			if c.Seq < certs[at].Seq {
				at = i
			}
		}
		p.Certs = append(p.Certs, copyCert(certs[at]))
		certs = append(certs[:at], certs[at+1:]...)
	}
	return p
}

// may tells whether From takes p.
func (c cluster) may(p api.Points) bool {
	if !c.mayCert(p.Stable) {
		return false
	}
	many := map[int]int{}
	for i, v := range p.Votes {
		many[v.Sign.Key]++
		if !c.mayVote(v) || v.Seq <= p.Stable.Seq || many[v.Sign.Key] > 4 || i > 0 && !lessVote(p.Votes[i-1], v) {
			return false
		}
	}
	for i, x := range p.Certs {
		if !c.mayCert(x) || x.Seq <= p.Stable.Seq || i > 0 && p.Certs[i-1].Seq > x.Seq {
			return false
		}
		for _, y := range p.Certs[:i] {
			if x.Seq == y.Seq && x.Digest == y.Digest {
				return false
			}
		}
	}
	return true
}

func modelOf(c cluster, p api.Points) *model {
	p = copyPlain(p)
	return &model{c: c, stable: p.Stable, votes: p.Votes, certs: p.Certs}
}

func (m *model) clone() *model {
	return &model{m.c, copyCert(m.stable), append([]api.Vote(nil), m.votes...), copyPlain(api.Points{Certs: m.certs}).Certs}
}

// both are points and their model, which are told the same.
type both struct {
	t *testing.T
	p *point.Points
	m *model
}

func beginBoth(t *testing.T, c cluster) both {
	t.Helper()
	return both{t, start(t, c.f), &model{c: c}}
}

func (b both) clone() both {
	return both{b.t, b.p.Clone(), b.m.clone()}
}

func (b both) vote(v api.Vote) string {
	b.t.Helper()
	before := b.m.plain()
	c, told := b.p.Vote(v)
	want, wantTold, how := b.m.vote(v)
	if !sameCert(c, want) || told != wantTold || !told && !isZero(c) {
		b.t.Fatalf("f %d: %+v: Vote(%+v) = %+v, %v, want %+v, %v", b.m.c.f, before, v, c, told, want, wantTold)
	}
	return how
}

func (b both) know(c api.Cert) bool {
	b.t.Helper()
	before := b.m.plain()
	is, want := b.p.Know(c), b.m.know(c)
	if is != want {
		b.t.Fatalf("f %d: %+v: Know(%+v) = %v", b.m.c.f, before, c, is)
	}
	return is
}

func (b both) settle(c api.Cert) api.Errno {
	b.t.Helper()
	before := b.m.plain()
	e, want := b.p.Settle(c), b.m.settle(c)
	if e != want {
		b.t.Fatalf("f %d: %+v: Settle(%+v) = %d, want %d", b.m.c.f, before, c, e, want)
	}
	return e
}

// same tells where points answer something else than their model.
func (b both) same() {
	b.t.Helper()
	if p, want := b.p.Plain(), b.m.plain(); !samePlain(p, want) {
		b.t.Fatalf("f %d: Plain tells %+v, want %+v", b.m.c.f, p, want)
	}
	if c := b.p.Stable(); !sameCert(c, b.m.stable) {
		b.t.Fatalf("f %d: Stable() = %+v, want %+v", b.m.c.f, c, b.m.stable)
	}
	if c, is := b.p.Best(); !b.is(c, is, b.m.best) {
		b.t.Fatalf("f %d: %+v: Best() = %+v, %v", b.m.c.f, b.m.plain(), c, is)
	}
	seqs := append(append(someSeqs(), wrongSeqs()...), 0, b.m.stable.Seq-4, b.m.stable.Seq, b.m.stable.Seq+4, b.m.stable.Seq+8, b.m.stable.Seq+12)
	for _, c := range b.m.certs {
		seqs = append(seqs, c.Seq)
	}
	for _, seq := range seqs {
		if c, is := b.p.At(seq); !b.is(c, is, func() (api.Cert, bool) { return b.m.at(seq) }) {
			b.t.Fatalf("f %d: %+v: At(%d) = %+v, %v", b.m.c.f, b.m.plain(), seq, c, is)
		}
	}
	many := map[int]int{} // P14.7
	for _, v := range b.p.Plain().Votes {
		many[v.Sign.Key]++
		if many[v.Sign.Key] > api.MaxVotes {
			b.t.Fatalf("more than %d votes of %d are kept", api.MaxVotes, v.Sign.Key)
		}
	}
}

func (b both) is(c api.Cert, is bool, want func() (api.Cert, bool)) bool {
	x, wantIs := want()
	return is == wantIs && sameCert(c, x) && (is || isZero(c))
}

// step is one thing to tell points.
type step struct {
	kind string
	vote api.Vote
	cert api.Cert
}

// tell tells it, and what it came to.
func (b both) tell(x step) string {
	b.t.Helper()
	switch x.kind {
	case "vote":
		return "vote " + b.vote(x.vote)
	case "know":
		return fmt.Sprint("know ", b.know(x.cert))
	}
	return fmt.Sprint("settle ", b.settle(x.cert))
}

// anyVote is mostly for one of few numbers above the stable one, and mostly such as others are.
func anyVote(dice *rand.Rand, m *model) api.Vote {
	v := api.Vote{Seq: m.stable.Seq + 4*(1+dice.Int63n(6)*dice.Int63n(2)), Digest: api.Digest(1 + dice.Intn(12)/11)}
	v.Sign = api.Sign{Key: dice.Intn(m.c.brokers), Digest: api.Digest(dice.Intn(50) - 2)}
	switch dice.Intn(40) {
	case 0:
		v.Seq = wrongSeqs()[dice.Intn(len(wrongSeqs()))]
	case 1:
		v.Digest = wrongDigests()[dice.Intn(len(wrongDigests()))]
	case 2:
		v.Sign.Key = wrongKeys(m.c.brokers)[dice.Intn(len(wrongKeys(m.c.brokers)))]
	case 3:
		v.Seq = m.stable.Seq - 4*dice.Int63n(3)
	case 4:
		v.Digest = api.Digest(1 + dice.Intn(6))
	case 5:
		v.Seq = someSeqs()[dice.Intn(len(someSeqs()))]
	}
	return v
}

// anyCert is mostly one that may be and is not far above the stable one.
func anyCert(dice *rand.Rand, m *model) api.Cert {
	c := api.Cert{Seq: m.stable.Seq + 4*(1+dice.Int63n(5)), Digest: api.Digest(1 + dice.Intn(3))}
	for _, k := range dice.Perm(m.c.brokers)[:m.c.big+dice.Intn(m.c.f+1)] {
		c.Signs = append(c.Signs, api.Sign{Key: k, Digest: api.Digest(dice.Intn(50) - 2)})
	}
	for i := range c.Signs { // rising
		for j := range i {
			if c.Signs[j].Key > c.Signs[i].Key {
				c.Signs[i], c.Signs[j] = c.Signs[j], c.Signs[i]
			}
		}
	}
	switch dice.Intn(12) {
	case 0:
		c.Seq = m.stable.Seq - 4*dice.Int63n(2)
	case 1:
		c = m.c.wrongCerts()[dice.Intn(len(m.c.wrongCerts()))]
	case 2:
		c = api.Cert{}
	}
	return c
}

func anyStep(dice *rand.Rand, m *model) step {
	switch dice.Intn(24) {
	case 0:
		if dice.Intn(3) == 0 {
			return step{kind: "settle", cert: anyCert(dice, m)}
		}
	case 1, 2:
		return step{kind: "know", cert: anyCert(dice, m)}
	}
	return step{kind: "vote", vote: anyVote(dice, m)}
}

// P14.2 to P14.4, P14.7, R2: random calls come to what the model comes to, and what is refused changes nothing.
func TestModel(t *testing.T) {
	count := map[string]int{}
	for _, c := range clusters() {
		for seed := range int64(25) {
			dice := rand.New(rand.NewSource(seed))
			b := beginBoth(t, c)
			for range 80 * c.brokers {
				count[b.tell(anyStep(dice, b.m))]++
				b.same()
				for i, x := range b.m.plain().Certs {
					if i > 0 && b.m.plain().Certs[i-1].Seq == x.Seq {
						count["several of one Seq"]++
					}
				}
			}
		}
	}
	for _, what := range []string{
		"vote refused", "vote below", "vote twice", "vote low", "vote pushed", "vote kept", "vote told", "vote more",
		"know true", "know false", "settle 0", "settle 1", "several of one Seq",
	} {
		if count[what] < 10 {
			t.Errorf("%s: only %d times", what, count[what])
		}
	}
}

// R6: the same calls answer the same, whatever order the map has.
func TestSameAgain(t *testing.T) {
	run := func() string {
		dice := rand.New(rand.NewSource(14))
		b := beginBoth(t, clusters()[1])
		text := ""
		for range 400 {
			text += b.tell(anyStep(dice, b.m)) + fmt.Sprint(b.p.Plain(), b.p.Clone().Plain())
		}
		return text
	}
	first := run()
	for range 5 {
		if run() != first {
			t.Fatal("the same calls answered something else")
		}
	}
}
