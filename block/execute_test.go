package block_test

import (
	"bytes"
	"math/rand"
	"slices"
	"strconv"
	"testing"

	"bulla/api"
	"bulla/block"
	"bulla/ideal"
	"bulla/request"
	"bulla/topics"
)

// want tells where an Execute has not come to just this.
func want(t *testing.T, got, want came) {
	t.Helper()
	if !sameCame(got, want) {
		t.Errorf("Execute = %+v, want %+v", got, want)
	}
}

// P9.3: what Execute comes to, told one by one.
func TestExecute(t *testing.T) {
	p, u, g := begun(t) // 1 is the root of no leaves, 2 are new topics
	one := p.run(t, u, g, api.Batch{ask(0, 1, create("t")), ask(1, 1, publish("t", "x"))})
	want(t, one, came{ // 3 is the batch, 4 is genesis, 5 is the leaf, 6 are the topics
		h:       api.Header{Seq: 1, Prev: 4, Batch: 3, Root: 5, State: 6},
		placed:  []api.Placed{{Topic: "t", Record: api.Record("x")}},
		answers: []api.Answered{{Client: 0, Time: 1, Done: true}, {Client: 1, Time: 1, Done: true}},
	})
	two := p.run(t, u, one.h, api.Batch{ask(1, 2, publish("t", "", "y")), ask(2, 5, publish("none", "z")), ask(0, 2, publish("t", "z"))})
	want(t, two, came{ // 9, 10 and 12 are the leaves, 11 and 13 the nodes over them
		h: api.Header{Seq: 2, Prev: 8, Batch: 7, Root: 13, State: 14},
		placed: []api.Placed{
			{Topic: "t", Offset: 1, Record: api.Record{}}, {Topic: "t", Offset: 2, Record: api.Record("y")}, {Topic: "t", Offset: 3, Record: api.Record("z")},
		},
		answers: []api.Answered{
			{Client: 1, Time: 2, Result: api.Result{Offset: 1}, Done: true},
			{Client: 2, Time: 5, Result: api.Result{Err: api.ErrNone}, Done: true},
			{Client: 0, Time: 2, Result: api.Result{Offset: 3}, Done: true},
		},
	})
	three := p.run(t, u, two.h, api.Batch{ask(1, 2, create("u")), ask(2, 4, create("v")), ask(1, 1, create("w"))})
	want(t, three, came{ // nothing is done, so that root and topics are known
		h: api.Header{Seq: 3, Prev: 16, Batch: 15, Root: 1, State: 14},
		answers: []api.Answered{
			{Client: 1, Time: 2, Result: api.Result{Offset: 1}},
			{Client: 2, Time: 4, Result: api.Result{Err: api.ErrPast}},
			{Client: 1, Time: 1, Result: api.Result{Err: api.ErrPast}},
		},
	})
	if !slices.Equal(u.Names(), []string{"t"}) {
		t.Errorf("topics %q", u.Names())
	}
}

// P9.3: a batch of no requests, nil or empty: nothing is done, and yet a header stands behind the last one.
func TestExecuteNone(t *testing.T) {
	p, u, g := begun(t)
	want(t, p.run(t, u, g, nil), came{h: api.Header{Seq: 1, Prev: 4, Batch: 3, Root: 1, State: 2}})
	want(t, p.run(t, u, g, api.Batch{}), came{h: api.Header{Seq: 1, Prev: 4, Batch: 3, Root: 1, State: 2}})
	want(t, p.run(t, u, api.Header{Seq: 1, Prev: 4, Batch: 3, Root: 1, State: 2}, nil), came{h: api.Header{Seq: 2, Prev: 5, Batch: 3, Root: 1, State: 2}})

	q := table() // where genesis was not asked for
	want(t, q.run(t, topics.New(), api.Header{}, nil), came{h: api.Header{Seq: 1, Prev: 2, Batch: 1, Root: 3, State: 4}})
}

// P9.3: all batches, one behind the other.
func TestExecuteAll(t *testing.T) {
	p, u, last := begun(t)
	placed, done, not := 0, 0, 0
	for i, b := range batches() {
		c := p.run(t, u, last, b)
		if c.e != api.OK || c.h.Seq != int64(i+1) || len(c.answers) != len(b) {
			t.Fatalf("Execute of batch %d: %+v", i, c)
		}
		placed += len(c.placed)
		for _, a := range c.answers {
			if a.Done {
				done++
			} else {
				not++
			}
		}
		last = c.h
	}
	if placed != 22 || done != 16 || not != 5 {
		t.Errorf("%d records, %d requests done, %d not", placed, done, not)
	}
}

// P9.3: batches by chance, over tables that know something, and topics that hold something.
func TestExecuteAny(t *testing.T) {
	dice := rand.New(rand.NewSource(9))
	for range 60 {
		p, u, last := begun(t)
		for now := int64(1); now < 40; now++ {
			if dice.Intn(4) == 0 {
				p.learn(form(last), num(nil, uint64(dice.Intn(300))))
			}
			if c := p.run(t, u, last, anyBatch(dice, now)); c.e != api.OK {
				t.Fatalf("%+v", c)
			} else {
				last = c.h
			}
		}
	}
}

// P9.3: the last header is whatever may be, whether the table knows it or not; its Seq alone is looked at.
func TestExecuteBehindAny(t *testing.T) {
	for i, last := range goodHeaders() {
		if i%23 > 0 && last.Seq < maxNum-1 {
			continue
		}
		p, u, _ := begun(t)
		if i%2 == 0 {
			p.learn(form(last))
		}
		c := p.run(t, u, last, batches()[0])
		if last.Seq == maxNum {
			want(t, c, came{e: api.ErrFull})
		} else if c.e != api.OK || c.h.Seq != last.Seq+1 || c.h.State != u.Digest(p.x) {
			t.Errorf("Execute behind %+v: %+v", last, c)
		}
	}
}

// P9.3: errors, and which comes first; nothing is done then, and nothing learnt.
func TestExecuteRefuses(t *testing.T) {
	p, u, g := begun(t)
	g = p.run(t, u, g, batches()[0]).h
	lasts := append(badHeaders(), g, api.Header{Seq: maxNum}, api.Header{Seq: maxNum - 1, Prev: maxNum}, api.Header{Seq: maxNum, State: maxNum + 1}, api.Header{Seq: maxNum, Prev: -1})
	all := badBatches()
	all[api.OK] = api.Batch{ask(3, 1, publish("t", "y"))}
	for _, last := range lasts {
		for e, b := range all {
			if e == api.OK && check(last) == api.OK && last.Seq < maxNum {
				continue // that is no error
			}
			first := e
			if check(last) != api.OK {
				first = api.ErrHeader
			} else if last.Seq == maxNum {
				first = api.ErrFull
			}
			had, state := p.x.Len(), u.Bytes()
			want(t, p.run(t, u, last, b), came{e: first})
			if p.x.Len() != had || !bytes.Equal(u.Bytes(), state) {
				t.Errorf("Execute with the error %d has done something", first)
			}
			for _, x := range tablesOfNoCall() {
				want(t, execute(x, u, last, b), came{e: api.ErrMade})
				for _, v := range topicsOfNoCall() {
					want(t, execute(x, v, last, b), came{e: api.ErrMade})
				}
			}
			for _, v := range topicsOfNoCall() {
				want(t, execute(p.x, v, last, b), came{e: api.ErrMade})
			}
			p.same(t)
		}
	}
}

// P9.3, R5: with what no call made nothing is done, whatever else is as it may be.
func TestExecuteOfNoCall(t *testing.T) {
	for _, b := range append(batches(), nil) {
		p, u, g := begun(t)
		state := u.Bytes()
		for _, x := range tablesOfNoCall() {
			want(t, execute(x, u, g, b), came{e: api.ErrMade})
			if x.Len() != 0 {
				t.Error("a table that no call made has learnt")
			}
		}
		for _, v := range topicsOfNoCall() {
			want(t, execute(p.x, v, g, b), came{e: api.ErrMade})
			want(t, execute(ideal.NewTable(), v, g, b), came{e: api.ErrMade}) // a table of nothing was made
			if v.Bytes() != nil {
				t.Error("topics that no call made hold something")
			}
		}
		p.same(t)
		if !bytes.Equal(u.Bytes(), state) {
			t.Error("topics were changed")
		}
	}
}

// P9.3: a table that becomes full at each of what is asked for, told one by one: the answer, what is learnt, whether the requests are done.
func TestExecuteFull(t *testing.T) {
	b := api.Batch{ask(0, 1, create("t")), ask(1, 1, publish("t", "x", "y"))}
	last := api.Header{Seq: 6, Prev: 1}
	after := topics.New()
	for _, s := range b {
		after.Apply(s.Request)
	}
	asked := [][]byte{request.PutBatch(nil, b), form(last), {0, 1, 't', 0, 1, 'x'}, {0, 1, 't', 1, 1, 'y'}, nil, after.Bytes()}
	for room := range 7 {
		p := crowded(room)
		asked[4] = num(num([]byte{1}, api.MaxSums-uint64(room)+3), api.MaxSums-uint64(room)+4) // the node over both leaves
		u := topics.New()
		c := p.run(t, u, last, b)
		if room < 6 {
			want(t, c, came{e: api.ErrFull})
		} else if c.e != api.OK || c.h != (api.Header{Seq: 7, Prev: api.MaxSums - 4, Batch: api.MaxSums - 5, Root: api.MaxSums - 1, State: api.MaxSums}) {
			t.Errorf("Execute with room for all: %+v", c)
		}
		for i, text := range asked {
			if _, known := p.x.Look(text); known != (i < room) {
				t.Errorf("with room for %d, %v is known: %v", room, text, known)
			}
		}
		if done := !bytes.Equal(u.Bytes(), topics.New().Bytes()); done != (room >= 2) || done && !bytes.Equal(u.Bytes(), after.Bytes()) {
			t.Errorf("with room for %d, the topics are %v", room, u.Bytes())
		}
	}
}

// P9.3: a full table, or one with some room, that knows all but one or two of what is asked for.
func TestExecuteFullOfKnown(t *testing.T) {
	b := api.Batch{ask(1, 1, publish("t", "x"))}
	start, after := topics.New(), topics.New()
	for _, u := range []*topics.Topics{start, after} {
		u.Apply(ask(0, 1, create("t")).Request)
	}
	after.Apply(b[0].Request)
	last := api.Header{Seq: 6, Prev: 1}
	asked := [][]byte{request.PutBatch(nil, b), form(last), {0, 1, 't', 0, 1, 'x'}, after.Bytes()}
	for known := range 1 << len(asked) {
		for room := range 3 {
			var texts [][]byte
			for i := range asked {
				if known>>i&1 == 1 {
					texts = append(texts, asked[i])
				}
			}
			p, u := crowded(room, texts...), start.Clone()
			c := p.run(t, u, last, b)
			if unknown := len(asked) - len(texts); (c.e == api.OK) != (unknown <= room) {
				t.Errorf("Execute with room for %d and %d unknown: %+v", room, unknown, c)
			}
		}
	}
}

// P9.3: behind an error of a full table, the same batch over the topics as they are then: its requests were done, or not.
func TestExecuteFullAgain(t *testing.T) {
	b := api.Batch{ask(0, 1, create("t"))}
	for room := range 4 {
		u := topics.New()
		crowded(room).run(t, u, api.Header{}, b)
		p := table()
		c := p.run(t, u, api.Header{}, b)
		want(t, c, came{
			h:       api.Header{Seq: 1, Prev: 2, Batch: 1, Root: 3, State: 4},
			answers: []api.Answered{{Client: 0, Time: 1, Done: room < 2}},
		})
	}
}

// P9.3: which error a full table is behind.
func TestExecuteFullRefuses(t *testing.T) {
	p, u := crowded(0), topics.New()
	for _, last := range badHeaders() {
		want(t, p.run(t, u, last, batches()[0]), came{e: api.ErrHeader})
	}
	for e, b := range badBatches() {
		want(t, p.run(t, u, api.Header{}, b), came{e: e})
		want(t, p.run(t, u, api.Header{Seq: maxNum}, b), came{e: api.ErrFull})
		want(t, execute(p.x, nil, api.Header{}, b), came{e: api.ErrMade})
	}
	want(t, p.run(t, u, api.Header{}, nil), came{e: api.ErrFull})
}

// R3: neither the batch is kept, nor is what was answered somebody else's.
func TestExecuteKeepsOff(t *testing.T) {
	fresh := func() api.Batch {
		return api.Batch{ask(0, 1, create("t")), ask(1, 1, publish("t", "ab", "", "c")), ask(2, 1, publish("t", "d"))}
	}
	p, u, g := begun(t)
	b := fresh()
	one := p.run(t, u, g, b)
	v := topics.New()
	again := p.run(t, v, g, fresh())
	state := u.Bytes()
	scribble(b)
	if !sameCame(one, again) || !bytes.Equal(u.Bytes(), state) {
		t.Errorf("what was executed sees what is written to the batch: %+v", one)
	}
	for _, x := range one.placed {
		_ = append(x.Record, "scribble"...) // must not run into the next one
	}
	if !sameCame(one, again) {
		t.Errorf("records share memory: %+v", one)
	}
	scribblePlaced(one.placed)
	clear(one.answers[:cap(one.answers)])
	if !bytes.Equal(u.Bytes(), state) {
		t.Error("the topics see what is written to records that were answered")
	}
	p.same(t)
	two := p.run(t, u, again.h, fresh())
	for i, a := range two.answers {
		if a.Done || a.Client != i || a.Time != 1 {
			t.Errorf("the answer %d: %+v", i, a)
		}
	}
}

// R3: batches that share records with each other, and one record that stands in many places.
func TestExecuteShared(t *testing.T) {
	p, u, g := begun(t)
	r := api.Record("abc")
	o := api.Op{Kind: api.OpPublish, Topic: "t", Records: []api.Record{r, r[:2], r[1:], r}}
	c := p.run(t, u, g, api.Batch{ask(0, 1, create("t")), ask(1, 1, o), ask(2, 1, o)})
	if len(c.placed) != 8 {
		t.Fatalf("%+v", c)
	}
	clear(r)
	c.placed[0].Record[0] = 'z'
	for i, x := range c.placed[1:] {
		if want := []string{"ab", "bc", "abc", "abc", "ab", "bc", "abc"}[i]; string(x.Record) != want {
			t.Errorf("record %d is %q, want %q", i+1, x.Record, want)
		}
	}
}

// THE BOUND: nothing that a table holds is copied or gone through.
func TestExecuteNearLinear(t *testing.T) {
	x, u := ideal.NewTable(), topics.New()
	for i := range 1 << 17 {
		x.Sum([]byte(strconv.Itoa(i)))
	}
	last, _ := block.Genesis(x)
	m := allocated(func() {
		for i := range int64(100) {
			c := execute(x, u, last, api.Batch{ask(0, i+1, create("t"))})
			if c.e != api.OK || !block.Chain(x, last, c.h) {
				t.Fatalf("%+v", c)
			}
			last = c.h
		}
	})
	if m > 1<<20 {
		t.Errorf("%d bytes of memory", m)
	}
	long := slices.Repeat(api.Batch{ask(0, 1, create("t"))}, 1<<16)
	if m := allocated(func() { want(t, execute(x, u, last, long), came{e: api.ErrLong}) }); m > 1<<16 {
		t.Errorf("%d bytes of memory", m)
	}
}
