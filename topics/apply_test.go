package topics_test

import (
	"math"
	"strings"
	"testing"

	"bulla/api"
	"bulla/topics"
)

// The chapter's example.
func TestExample(t *testing.T) {
	b := start(t)
	b.do(create("t"), okay(0))
	twice := api.Request{Client: 3, Time: 2, Op: publish("t", "x", "y")}
	if res, done := b.apply(twice); res != okay(0) || !done {
		t.Errorf("%+v, %v", res, done)
	}
	if res, done := b.apply(twice); res != okay(0) || done {
		t.Errorf("the same again: %+v, %v", res, done)
	}
	b.do(commit("t", "g", 2), okay(2))
	b.do(trim("t", 1), okay(1))
	if r, e := b.x.Get("t", 0); e != api.ErrOffset || r != nil {
		t.Errorf("Get of 0: %q, %d", r, e)
	}
	if r, e := b.x.Get("t", 1); e != api.OK || string(r) != "y" {
		t.Errorf("Get of 1: %q, %d", r, e)
	}
	b.same()
}

// P7.1: which clients and which times there may be.
func TestArguments(t *testing.T) {
	for _, x := range []struct {
		client int
		time   int64
		e      api.Errno
	}{
		{-1, 1, api.ErrArg}, {0, 1, api.OK}, {7, 1, api.OK}, {8, 1, api.ErrArg}, {9, 1, api.ErrArg},
		{math.MinInt, 1, api.ErrArg}, {math.MaxInt, 1, api.ErrArg}, {256, 1, api.ErrArg}, {1 << 32, 1, api.ErrArg},
		{3, 0, api.ErrArg}, {3, -1, api.ErrArg}, {3, math.MinInt64, api.ErrArg},
		{3, 2, api.OK}, {3, 1 << 32, api.OK}, {3, api.MaxNum, api.OK}, {3, api.MaxNum + 1, api.ErrArg}, {3, math.MaxInt64, api.ErrArg},
		{-1, 0, api.ErrArg}, {8, api.MaxNum + 1, api.ErrArg},
	} {
		b := start(t)
		res, done := b.apply(api.Request{Client: x.client, Time: x.time, Op: create("t")})
		if res != bad(x.e) || done != (x.e == api.OK) {
			t.Errorf("client %d at %d: %+v, %v, want %d", x.client, x.time, res, done, x.e)
		}
		b.same()
		if names := b.x.Names(); len(names) > 0 != done {
			t.Errorf("client %d at %d: %q", x.client, x.time, names)
		}
	}
}

// P7.1: a time that may not be is ErrArg also of a client that has a last time.
func TestArgumentsFirst(t *testing.T) {
	b := from(t, plain{clients: [8]said{3: {api.MaxNum, uint64(api.ErrNone), 0}}})
	for _, x := range []struct {
		time int64
		e    api.Errno
	}{
		{0, api.ErrArg}, {-1, api.ErrArg}, {1, api.ErrPast}, {api.MaxNum - 1, api.ErrPast}, {api.MaxNum, api.ErrNone}, {api.MaxNum + 1, api.ErrArg},
	} {
		if res, done := b.apply(api.Request{Client: 3, Time: x.time, Op: create("t")}); res != bad(x.e) || done {
			t.Errorf("at %d: %+v, %v, want %d", x.time, res, done, x.e)
		}
	}
	b.same()
}

// P7.1, P7.4: the last time, the one below it and the one above it, behind an answer that is an error and behind one that is none.
func TestAgain(t *testing.T) {
	for _, x := range []struct {
		o    api.Op
		want api.Result
	}{
		{publish("t", "x", "y"), okay(1)}, {publish("u", "x"), bad(api.ErrNone)}, {create("t"), bad(api.ErrTwice)}, {create("u"), okay(0)}, {commit("t", "g", 1), okay(1)},
		{commit("t", "g", 2), bad(api.ErrOffset)}, {trim("t", 1), okay(1)}, {trim("t", 2), bad(api.ErrOffset)}, {api.Op{}, okay(0)}, {api.Op{Kind: 5}, bad(api.ErrOp)},
	} {
		b := start(t)
		b.apply(api.Request{Client: 6, Time: 1, Op: create("t")})
		b.apply(api.Request{Client: 6, Time: 2, Op: publish("t", "w")})
		ask := func(time int64, o api.Op, want api.Result, does bool) {
			t.Helper()
			if res, done := b.apply(api.Request{Client: 3, Time: time, Op: o}); res != want || done != does {
				t.Fatalf("%+v, at %d %+v: %+v, %v, want %+v, %v", x.o, time, o, res, done, want, does)
			}
			b.same()
		}
		ask(7, x.o, x.want, true)
		for range 2 {
			ask(7, x.o, x.want, false)
			ask(7, publish("t", "other"), x.want, false)
			ask(7, api.Op{Kind: 5}, x.want, false)
			ask(6, x.o, bad(api.ErrPast), false)
			ask(1, publish("t", "other"), bad(api.ErrPast), false)
		}
		ask(8, api.Op{}, okay(0), true)
		ask(7, x.o, bad(api.ErrPast), false)
		ask(100, api.Op{Kind: 5}, bad(api.ErrOp), true)
		ask(99, x.o, bad(api.ErrPast), false)
		ask(100, api.Op{}, bad(api.ErrOp), false)
	}
}

// P7.1: what is answered again is what was answered then, whatever came behind it from others.
func TestAgainLater(t *testing.T) {
	b := start(t)
	b.do(create("t"), okay(0))
	first := api.Request{Client: 5, Time: 1, Op: publish("t", "x")}
	b.apply(first)
	b.do(publish("t", "y"), okay(1))
	b.do(trim("t", 2), okay(2))
	if res, done := b.apply(first); res != okay(0) || done {
		t.Errorf("%+v, %v", res, done)
	}
	none := api.Request{Client: 6, Time: 1, Op: publish("u", "x")}
	b.apply(none)
	b.do(create("u"), okay(0))
	if res, done := b.apply(none); res != bad(api.ErrNone) || done {
		t.Errorf("%+v, %v", res, done)
	}
	b.same()
}

// P7.1: each client has a time of its own.
func TestTimesApart(t *testing.T) {
	b := start(t)
	for client := range api.MaxClients {
		for _, time := range []int64{10 - int64(client), 20} {
			if _, done := b.apply(api.Request{Client: client, Time: time}); !done {
				t.Errorf("client %d at %d: not done", client, time)
			}
		}
	}
	b.same()
}

// P7.1: what op.Check refuses is done all the same.
func TestRefused(t *testing.T) {
	b := start(t)
	b.do(create("t"), okay(0))
	for _, x := range []struct {
		o api.Op
		e api.Errno
	}{
		{api.Op{Kind: -1}, api.ErrOp}, {api.Op{Kind: 5}, api.ErrOp}, {api.Op{Topic: "t"}, api.ErrOp}, {api.Op{Kind: math.MinInt, Topic: "t"}, api.ErrOp},
		{api.Op{Kind: api.OpCreate, Topic: "u", Offset: 1}, api.ErrOp}, {api.Op{Kind: api.OpTrim, Topic: "t", Group: "g"}, api.ErrOp},
		{create(""), api.ErrName}, {create("a/b"), api.ErrName}, {create("seventeen-letters"), api.ErrName}, {publish("\xff", "x"), api.ErrName},
		{commit("t", "", 0), api.ErrName}, {commit("", "g", 0), api.ErrName}, {trim(" ", 0), api.ErrName},
		{publish("t"), api.ErrRecord}, {publish("t", many(5, 1)...), api.ErrRecord}, {publish("t", strings.Repeat("x", 65)), api.ErrRecord}, {publish("t", "", strings.Repeat("x", 65)), api.ErrRecord},
		{api.Op{Kind: api.OpPublish, Topic: "t", Records: []api.Record{}}, api.ErrRecord}, {publish("nowhere"), api.ErrRecord},
		{commit("t", "g", -1), api.ErrOp}, {commit("t", "g", api.MaxNum+1), api.ErrOp}, {trim("t", -1), api.ErrOp}, {trim("t", math.MaxInt64), api.ErrOp},
	} {
		b.do(x.o, bad(x.e))
		b.same()
		last, _ := b.x.Last(3)
		if res, done := b.apply(api.Request{Client: 3, Time: last, Op: create("v")}); res != bad(x.e) || done {
			t.Errorf("%+v, asked again: %+v, %v", x.o, res, done)
		}
	}
	if a, n, e := b.x.Bounds("t"); a != 0 || n != 0 || e != api.OK || len(b.x.Names()) != 1 || len(b.x.Groups("t")) != 0 {
		t.Errorf("what was refused was done: %d, %d, %d, %q", a, n, e, b.x.Names())
	}
}

// P7.1: nothing comes to nothing, and takes a time.
func TestNothing(t *testing.T) {
	b := start(t)
	b.do(api.Op{}, okay(0))
	b.do(api.Op{Records: []api.Record{}}, okay(0))
	b.same()
	if time, res := b.x.Last(3); time != 2 || res != okay(0) {
		t.Errorf("Last(3) = %d, %+v", time, res)
	}
}

// P7.1: a topic twice, as many as there may be, and one more.
func TestCreate(t *testing.T) {
	b := start(t)
	for i, name := range rising(8, "t") {
		b.do(create(name), okay(0))
		b.do(create(name), bad(api.ErrTwice))
		if len(b.x.Names()) != i+1 {
			t.Errorf("%q", b.x.Names())
		}
	}
	b.do(create("ninth"), bad(api.ErrFull))
	b.do(create(wide), bad(api.ErrFull))
	b.do(create("ta"), bad(api.ErrTwice)) // ahead of ErrFull
	b.do(publish("ninth", "x"), bad(api.ErrNone))
	b.same()
	b.do(publish("ta", "x"), okay(0))
	b.do(create("ta"), bad(api.ErrTwice))
	b.do(publish("ta", "y"), okay(1))
	b.same()
}

// P7.1: names that are alike are names of their own.
func TestNamesApart(t *testing.T) {
	b := start(t)
	for i, name := range []string{"t", "T", "tt", "é", "e\u0301", wide, "topic"} {
		b.do(create(name), okay(0))
		b.do(publish(name, many(4, 3)[i%4]), okay(0))
		b.do(commit(name, name, 1), okay(1))
	}
	b.same()
}

// P7.1: a publish up to what a topic keeps and of one record more.
func TestPublish(t *testing.T) {
	for n := 1; n <= api.MaxRecords; n++ {
		b := start(t)
		b.do(publish("t", many(n, 1)...), bad(api.ErrNone))
		b.do(create("t"), okay(0))
		b.do(publish("t"), bad(api.ErrRecord))
		next := int64(0)
		for ; next+int64(n) <= api.MaxKept; next += int64(n) {
			b.do(publish("t", many(n, n)...), okay(next))
		}
		b.do(publish("t", many(n, 1)...), bad(api.ErrQuota))
		b.same()
		for ; next < api.MaxKept; next++ {
			b.do(publish("t", "one"), okay(next))
		}
		b.do(publish("t", ""), bad(api.ErrQuota))
		b.same()
		if a, n, e := b.x.Bounds("t"); a != 0 || n != api.MaxKept || e != api.OK {
			t.Errorf("Bounds: %d, %d, %d", a, n, e)
		}
		b.do(trim("t", int64(n)), okay(int64(n)))
		b.do(publish("t", many(n, 2)...), okay(next))
		b.do(publish("t", "x"), bad(api.ErrQuota))
		b.same()
	}
}

// P7.1: what one publish puts stands there whole or not at all.
func TestPublishWhole(t *testing.T) {
	b := from(t, plain{topics: []entry{{name: "t", records: many(62, 1)}}})
	b.do(publish("t", "a", "b", "c"), bad(api.ErrQuota))
	b.do(publish("t", "a", "b", "c", "d"), bad(api.ErrQuota))
	b.same()
	b.do(publish("t", "a", "b"), okay(62))
	b.same()
}

// P7.1: a next offset that would come to MaxNum, and above it.
func TestPublishAtTheEnd(t *testing.T) {
	for n := 1; n <= api.MaxRecords; n++ {
		for left := range uint64(6) {
			b := from(t, plain{topics: []entry{{name: "t", base: api.MaxNum - left - 2, records: []string{"x", "y"}}}})
			want := okay(int64(api.MaxNum - left))
			if uint64(n) > left {
				want = bad(api.ErrQuota)
			}
			b.do(publish("t", many(n, 1)...), want)
			b.same()
		}
	}
}

// P7.1: where records were put.
func TestPlaced(t *testing.T) {
	x := topics.New()
	x.Apply(api.Request{Client: 1, Time: 1, Op: create("größe")})
	x.Apply(api.Request{Client: 1, Time: 2, Op: publish("größe", "w")})
	res, placed, done := x.Apply(api.Request{Client: 1, Time: 3, Op: publish("größe", "x", "", "x", "yz")})
	want := []api.Placed{
		{Topic: "größe", Offset: 1, Record: api.Record("x")},
		{Topic: "größe", Offset: 2},
		{Topic: "größe", Offset: 3, Record: api.Record("x")},
		{Topic: "größe", Offset: 4, Record: api.Record("yz")},
	}
	if res != okay(1) || !done || !samePlaced(placed, want) {
		t.Errorf("%+v, %+v, %v", res, placed, done)
	}
	for _, r := range []api.Request{
		{Client: 1, Time: 3, Op: publish("größe", "x")},
		{Client: 1, Time: 2, Op: publish("größe", "x")},
		{Client: 8, Time: 4, Op: publish("größe", "x")},
		{Client: 1, Time: 0, Op: publish("größe", "x")},
		{Client: 1, Time: 4, Op: publish("nowhere", "x")},
		{Client: 1, Time: 5, Op: publish("größe")},
		{Client: 1, Time: 6, Op: commit("größe", "g", 3)},
		{Client: 1, Time: 7, Op: trim("größe", 3)},
		{Client: 1, Time: 8, Op: create("u")},
		{Client: 1, Time: 9},
	} {
		if _, placed, _ := x.Apply(r); len(placed) > 0 {
			t.Errorf("%+v puts %+v", r, placed)
		}
	}
}

// P7.1: a commit below a group's offset, at it, up to the next offset, and above it.
func TestCommit(t *testing.T) {
	b := start(t)
	b.do(commit("t", "g", 0), bad(api.ErrNone))
	b.do(create("t"), okay(0))
	b.do(commit("t", "g", 1), bad(api.ErrOffset))
	if l := b.x.Groups("t"); len(l) != 0 {
		t.Errorf("a commit that was refused left a group: %q", l)
	}
	b.do(commit("t", "g", 0), okay(0))
	b.do(publish("t", "a", "b", "c"), okay(0))
	b.do(commit("t", "g", 2), okay(2))
	for _, x := range []struct {
		offset int64
		want   api.Result
	}{
		{1, bad(api.ErrOffset)}, {0, bad(api.ErrOffset)}, {2, okay(2)}, {4, bad(api.ErrOffset)}, {api.MaxNum, bad(api.ErrOffset)}, {3, okay(3)}, {3, okay(3)}, {2, bad(api.ErrOffset)},
	} {
		b.do(commit("t", "g", x.offset), x.want)
		b.same()
	}
	b.do(commit("t", "h", 3), okay(3))
	b.do(trim("t", 2), okay(2))
	b.do(commit("t", "below", 0), okay(0)) // the base bounds no group
	b.do(commit("t", "below", 1), okay(1))
	b.same()
}

// P7.1: the last group that there is room for, and one more.
func TestCommitFull(t *testing.T) {
	b := start(t)
	b.do(create("t"), okay(0))
	b.do(create("u"), okay(0))
	b.do(publish("t", "x"), okay(0))
	for _, name := range rising(8, "g") {
		b.do(commit("t", name, 0), okay(0))
	}
	b.do(commit("t", "ninth", 0), bad(api.ErrFull))
	b.do(commit("t", "ninth", 1), bad(api.ErrFull))
	b.do(commit("t", "ninth", 2), bad(api.ErrOffset)) // ahead of ErrFull
	b.do(commit("t", "ga", 2), bad(api.ErrOffset))
	b.do(commit("t", "gh", 1), okay(1)) // a group that there is
	b.do(commit("u", "ninth", 0), okay(0))
	b.same()
}

// P7.1: a trim below the base, at it, at the next offset, and above it.
func TestTrim(t *testing.T) {
	b := start(t)
	b.do(trim("t", 0), bad(api.ErrNone))
	b.do(create("t"), okay(0))
	b.do(trim("t", 0), okay(0))
	b.do(trim("t", 1), bad(api.ErrOffset))
	b.do(publish("t", "a", "b", "c", "d"), okay(0))
	b.do(commit("t", "g", 1), okay(1))
	for _, x := range []struct {
		offset int64
		want   api.Result
	}{
		{0, okay(0)}, {2, okay(2)}, {1, bad(api.ErrOffset)}, {0, bad(api.ErrOffset)}, {2, okay(2)}, {5, bad(api.ErrOffset)}, {api.MaxNum, bad(api.ErrOffset)},
		{3, okay(3)}, {4, okay(4)}, {4, okay(4)}, {3, bad(api.ErrOffset)}, {5, bad(api.ErrOffset)},
	} {
		b.do(trim("t", x.offset), x.want)
		b.same()
	}
	if n, e := b.x.Committed("t", "g"); n != 1 || e != api.OK {
		t.Errorf("a trim changed a group: %d, %d", n, e)
	}
	b.do(publish("t", "e"), okay(4))
	b.same()
}

// P7.1: of errors that would do, the first one.
func TestFirstError(t *testing.T) {
	b := from(t, fullest())
	b.m.clients[3] = said{1, 0, 0}
	b.x, _ = topics.Parse(b.m.plain().form())
	full := "topic-of-lettera"
	for _, x := range []struct {
		o api.Op
		e api.Errno
	}{
		{create("a/b"), api.ErrName}, {create(full), api.ErrTwice}, {create("ninth"), api.ErrFull},
		{publish("ninth"), api.ErrRecord}, {publish("ninth", "x"), api.ErrNone}, {publish(full), api.ErrRecord}, {publish(full, "x"), api.ErrQuota},
		{commit("ninth", "g", -1), api.ErrOp}, {commit("ninth", "/", 0), api.ErrName}, {commit("ninth", "g", 0), api.ErrNone}, {commit(full, "group-of-lettera", 0), api.ErrOffset},
		{commit(full, "ninth", api.MaxNum), api.ErrFull}, {commit(full, "ninth", api.MaxNum+1), api.ErrOp},
		{trim("ninth", api.MaxNum+1), api.ErrOp}, {trim("ninth", 0), api.ErrNone}, {trim(full, 0), api.ErrOffset},
	} {
		before := b.m.plain()
		b.do(x.o, bad(x.e))
		b.same()
		p := b.m.plain()
		p.clients = before.clients
		if string(p.form()) != string(before.form()) {
			t.Errorf("%+v: the error changed a topic", x.o)
		}
	}
}

// P7.1, P7.6: an error leaves the topics as they were, but for the client's time and answer.
func TestErrorsLeave(t *testing.T) {
	b := from(t, plain{topics: []entry{{name: "t", base: 2, records: []string{"a", "b"}, groups: []group{{"g", 3}}}}, clients: [8]said{3: {9, 0, 4}}})
	for time, x := range []struct {
		o api.Op
		e api.Errno
	}{
		{create("t"), api.ErrTwice}, {publish("u", "x"), api.ErrNone}, {publish("t"), api.ErrRecord}, {commit("u", "g", 3), api.ErrNone}, {commit("t", "g", 2), api.ErrOffset},
		{commit("t", "g", 5), api.ErrOffset}, {commit("t", "h", 5), api.ErrOffset}, {trim("u", 2), api.ErrNone}, {trim("t", 1), api.ErrOffset}, {trim("t", 5), api.ErrOffset}, {api.Op{Kind: 9}, api.ErrOp}, {create(""), api.ErrName},
	} {
		b.do(x.o, bad(x.e))
		want := plain{topics: []entry{{name: "t", base: 2, records: []string{"a", "b"}, groups: []group{{"g", 3}}}}, clients: [8]said{3: {uint64(10 + time), uint64(x.e), 0}}}
		if string(b.x.Bytes()) != string(want.form()) {
			t.Errorf("%+v leaves %v, want %v", x.o, b.x.Bytes(), want.form())
		}
	}
}

// THE BOUND: an operation that may not be is not gone through again and again, nor kept.
func TestLongOperation(t *testing.T) {
	x := topics.New()
	long := strings.Repeat("x", 1<<20)
	for i, o := range []api.Op{create(long), commit("t", long, 0), publish("t", long), {Kind: api.OpPublish, Topic: "t", Records: make([]api.Record, 1<<20)}, {Topic: long}} {
		r := api.Request{Client: 1, Time: int64(i + 1), Op: o}
		if n := allocated(func() { x.Apply(r) }); n > 1<<16 {
			t.Errorf("operation %d takes %d bytes", i, n)
		}
	}
}
