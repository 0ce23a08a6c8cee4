package topics_test

import (
	"bytes"
	"math/rand"
	"testing"

	"bulla/api"
	"bulla/topics"
)

// P7.1 to P7.3: random requests come to what the model of the machine comes to.
func TestModel(t *testing.T) {
	count := map[api.Errno]int{}
	for seed := range int64(60) {
		dice := rand.New(rand.NewSource(seed))
		b := start(t)
		for i := range 400 {
			res, _ := b.apply(anyRequest(dice, b.m))
			count[res.Err]++
			if i%10 == 0 {
				b.same()
			}
		}
		b.same()
	}
	for _, e := range []api.Errno{api.OK, api.ErrArg, api.ErrPast, api.ErrNone, api.ErrTwice, api.ErrFull, api.ErrQuota, api.ErrOffset, api.ErrOp, api.ErrName, api.ErrRecord} {
		if count[e] < 10 {
			t.Errorf("only %d requests came to %d", count[e], e)
		}
	}
}

// P7.5, R6: topics, a clone of them and what Parse makes of their Bytes come to the same, whatever is done with all of them.
func TestSidesStaySame(t *testing.T) {
	for seed := range int64(40) {
		dice := rand.New(rand.NewSource(seed))
		l := some()
		b := from(t, l[dice.Intn(len(l))])
		for range 30 {
			sides := []*topics.Topics{b.x.Clone()}
			x, e := topics.Parse(b.x.Bytes())
			if e != api.OK {
				t.Fatalf("Parse of %v: %d", b.x.Bytes(), e)
			}
			sides = append(sides, x)
			for range 20 {
				r := anyRequest(dice, b.m)
				res, placed, done := b.x.Apply(r)
				b.m.apply(r)
				for i, x := range sides {
					if xres, xplaced, xdone := x.Apply(r); xres != res || !samePlaced(xplaced, placed) || xdone != done {
						t.Fatalf("side %d: Apply(%+v) = %+v, %+v, %v, want %+v, %+v, %v", i, r, xres, xplaced, xdone, res, placed, done)
					}
				}
			}
			b.same()
			for _, x := range sides {
				both{t, x, b.m}.same()
			}
			b.x = sides[dice.Intn(2)]
		}
	}
}

// place is where a record stands.
type place struct {
	topic  string
	offset int64
}

// P7.4, P7.6: over long runs, no time of a client is done twice, a record stays at its offset until it is trimmed, and offsets are given one by one.
func TestStays(t *testing.T) {
	for seed := range int64(30) {
		dice := rand.New(rand.NewSource(seed))
		x, m := topics.New(), newModel()
		history := map[place]string{}
		next := map[string]int64{}
		times := map[int]int64{}
		for range 500 {
			r := anyRequest(dice, m)
			m.apply(r)
			before := x.Clone()
			res, placed, done := x.Apply(r)
			if done && r.Time <= times[r.Client] {
				t.Fatalf("%+v was done behind %d", r, times[r.Client])
			}
			if done {
				times[r.Client] = r.Time
				if again, at, twice := x.Apply(r); again != res || len(at) > 0 || twice {
					t.Fatalf("%+v again: %+v, %+v, %v, want %+v", r, again, at, twice, res)
				}
			}
			for _, p := range placed {
				if p.Offset != next[p.Topic] {
					t.Fatalf("%+v, where %d is next", p, next[p.Topic])
				}
				next[p.Topic]++
				history[place{p.Topic, p.Offset}] = string(p.Record)
			}
			stays(t, x, history, next)
			if res.Err != api.OK {
				unchanged(t, before, x)
			}
		}
	}
}

// stays tells where topics hold something else than was put.
func stays(t *testing.T, x *topics.Topics, history map[place]string, next map[string]int64) {
	t.Helper()
	for _, name := range x.Names() {
		base, end, _ := x.Bounds(name)
		if end != next[name] {
			t.Fatalf("the next offset of %q is %d, want %d", name, end, next[name])
		}
		for offset := range end {
			r, e := x.Get(name, offset)
			if want := history[place{name, offset}]; offset >= base && (e != api.OK || string(r) != want) || offset < base && e != api.ErrOffset {
				t.Fatalf("Get(%q, %d) = %q, %d, want %q", name, offset, r, e, want)
			}
		}
	}
}

// unchanged tells where the topics of two machines, whatever their clients, are not the same.
func unchanged(t *testing.T, a, b *topics.Topics) {
	t.Helper()
	clients := func(x *topics.Topics) int {
		n := 0
		for i := range api.MaxClients {
			time, res := x.Last(i)
			n += len(num(num(num(nil, uint64(time)), uint64(res.Err)), uint64(res.Offset)))
		}
		return n
	}
	f, g := a.Bytes(), b.Bytes()
	if !bytes.Equal(f[:len(f)-clients(a)], g[:len(g)-clients(b)]) {
		t.Fatalf("what was refused changed %v to %v", f, g)
	}
}

// R6: the same calls answer the same, whatever order the maps have.
func TestSameAgain(t *testing.T) {
	run := func() []byte {
		dice := rand.New(rand.NewSource(7))
		b := start(t)
		for range 600 {
			b.apply(anyRequest(dice, b.m))
		}
		return b.x.Bytes()
	}
	first := run()
	for range 10 {
		if !bytes.Equal(run(), first) {
			t.Fatal("the same calls came to other bytes")
		}
	}
}
