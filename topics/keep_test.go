package topics_test

import (
	"bytes"
	"slices"
	"strings"
	"testing"
	"unsafe"

	"bulla/api"
	"bulla/op"
	"bulla/topics"
)

// scribble writes to all that the owner of records can reach.
func scribble(l []api.Record) {
	l = l[:cap(l)]
	for i := range l {
		b := l[i][:cap(l[i])]
		for j := range b {
			b[j]++
		}
		l[i] = api.Record("scribble")
	}
}

// R3: a request is not written to, and is not kept in a way that its owner could change.
func TestRequestWrittenTo(t *testing.T) {
	b := start(t)
	b.do(create("t"), okay(0))
	one := []byte("abcdefgh")
	o := api.Op{Kind: api.OpPublish, Topic: "t", Records: []api.Record{one[:2], one[1:4], {}, one[4:4]}}
	first := op.Clone(o)
	b.do(o, okay(0))
	if !op.Same(o, first) || string(one) != "abcdefgh" {
		t.Errorf("Apply wrote to what was handed in: %+v, %q", o, one)
	}
	scribble(o.Records)
	b.same()
	more := [5]api.Record{api.Record("x"), api.Record("y"), api.Record("z")}
	b.do(api.Op{Kind: api.OpPublish, Topic: "t", Records: more[:2]}, okay(4))
	if string(more[2]) != "z" || more[3] != nil {
		t.Errorf("Apply wrote behind the records: %q", more)
	}
}

// R3: nothing that was answered is kept, nor shared with what else was answered.
func TestAnswersWrittenTo(t *testing.T) {
	b := start(t)
	b.do(create("t"), okay(0))
	b.do(create("u"), okay(0))
	b.do(commit("t", "g", 0), okay(0))
	r := api.Request{Client: 1, Time: 1, Op: publish("t", "abc", "d", "")}
	_, placed, _ := b.x.Apply(r)
	b.m.apply(r)
	own := r.Op.Records
	placed[0].Record[0] = 'x'
	if string(own[0]) != "abc" {
		t.Errorf("a placed record is the request's own: %q", own)
	}
	var l []api.Record
	for _, p := range placed {
		l = append(l, p.Record)
	}
	if string(l[1]) != "d" {
		t.Errorf("placed records share memory: %q", l)
	}
	scribble(l)
	b.same()
	for _, all := range b.x.All("t") {
		scribble([]api.Record{all})
	}
	b.same()
	all := b.x.All("t")
	for _, r := range all {
		scribble([]api.Record{r})
	}
	if _, records := told(all, 9); !slices.Equal(records, []string{"abc", "d", ""}) {
		t.Errorf("an iterator tells what was written to its records: %q", records)
	}
	got, _ := b.x.Get("t", 0)
	scribble([]api.Record{got})
	for _, l := range [][]string{b.x.Names(), b.x.Groups("t")} {
		l = l[:cap(l)]
		for i := range l {
			l[i] = "z"
		}
	}
	f := b.x.Bytes()
	clear(f[:cap(f)])
	b.same()
}

// R3: what was parsed is not kept in a way that its owner could change.
func TestParsedWrittenTo(t *testing.T) {
	for _, p := range some() {
		b := p.form()
		x, e := topics.Parse(b)
		if e != api.OK || !bytes.Equal(b, p.form()) {
			t.Fatalf("Parse: %d, %v", e, b)
		}
		clear(b)
		both{t, x, modelOf(p)}.same()
	}
}

// R3: a placed record is not written to by PlacedBytes, nor what it answers shared with it.
func TestPlacedBytesKeepsOff(t *testing.T) {
	r := make([]byte, 8, 64)
	p := api.Placed{Topic: "t", Offset: 1, Record: r}
	b := topics.PlacedBytes(p)
	first := bytes.Clone(b)
	for i := range r[:64] {
		r[:64][i] = 7
	}
	if !bytes.Equal(b, first) {
		t.Error("PlacedBytes answered what a record's owner can write to")
	}
	for i := range b[:cap(b)] {
		b[:cap(b)][i] = 1
	}
	if !bytes.Equal(r[:64], bytes.Repeat([]byte{7}, 64)) {
		t.Error("PlacedBytes answered a record's own memory")
	}
}

// R3: names are kept and told in memory of their own.
func TestNamesCut(t *testing.T) {
	long := strings.Repeat("x", 1<<10)
	x := topics.New()
	x.Apply(api.Request{Client: 1, Time: 1, Op: create(long[:4])})
	_, placed, _ := x.Apply(api.Request{Client: 1, Time: 2, Op: publish(long[:4], "a")})
	x.Apply(api.Request{Client: 1, Time: 3, Op: commit(long[:4], long[:5], 0)})
	for _, name := range []string{x.Names()[0], x.Groups("xxxx")[0], placed[0].Topic} {
		if unsafe.StringData(name) == unsafe.StringData(long) {
			t.Errorf("%q holds on to the text that it was cut from", name)
		}
	}
}

// R3, P7.3: a clone goes its own way, and so does what it was cloned from.
func TestClone(t *testing.T) {
	for _, p := range some() {
		a := from(t, p)
		c := both{t, a.x.Clone(), a.m.clone()}
		c.same()
		for _, o := range []api.Op{create("new"), publish("t", "p", "q"), commit("t", "g", 1), commit("t", "new", 2), trim("t", 1), publish("t", "r"), trim("t", 2)} {
			for i, b := range []both{c, a} {
				last, _ := b.x.Last(2)
				if i == 1 {
					o.Group, o.Records = strings.Replace(o.Group, "new", "newer", 1), slices.Clone(o.Records)
					for j := range o.Records {
						o.Records[j] = api.Record("other")
					}
				}
				b.apply(api.Request{Client: 2, Time: min(last+1+int64(i), api.MaxNum), Op: o})
				a.same()
				c.same()
			}
		}
	}
}
