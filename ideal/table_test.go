package ideal_test

import (
	"bytes"
	"math"
	"math/rand"
	"runtime"
	"slices"
	"strconv"
	"testing"

	"bulla/api"
	"bulla/ideal"
)

// made is a table of these texts.
func made(t *testing.T, texts ...string) *ideal.Table {
	t.Helper()
	x := ideal.NewTable()
	for i, s := range texts {
		if d := x.Sum([]byte(s)); d != api.Digest(i+1) {
			t.Fatalf("Sum(%q) = %d, want %d", s, d, i+1)
		}
	}
	return x
}

// holds tells where a table is not one of just these texts, in this order.
func holds(t *testing.T, x *ideal.Table, texts ...string) {
	t.Helper()
	plain := x.Plain()
	if x.Len() != len(texts) || len(plain) != len(texts) {
		t.Fatalf("Len %d, Plain %q, want %q", x.Len(), plain, texts)
	}
	for i, s := range texts {
		d := api.Digest(i + 1)
		if string(plain[i]) != s {
			t.Errorf("Plain has %q at %d, want %q", plain[i], i, s)
		}
		if g, is := x.Look([]byte(s)); g != d || !is {
			t.Errorf("Look(%q) = %d, %v, want %d", s, g, is, d)
		}
		if b, is := x.Open(d); string(b) != s || !is {
			t.Errorf("Open(%d) = %q, %v, want %q", d, b, is, s)
		}
	}
	for _, d := range []api.Digest{0, -1, api.Digest(len(texts) + 1), math.MaxInt64, math.MinInt64, 1 << 32, 1<<32 + 1} {
		if b, is := x.Open(d); b != nil || is {
			t.Errorf("Open(%d) = %q, %v", d, b, is)
		}
	}
}

// P2.1: numbers are given in the order in which byte strings come, each once.
func TestSum(t *testing.T) {
	x := ideal.NewTable()
	holds(t, x)
	for _, c := range []struct {
		b []byte
		d api.Digest
	}{
		{[]byte("a"), 1}, {[]byte("b"), 2}, {[]byte("a"), 1}, {nil, 3}, {[]byte{}, 3}, {[]byte("b"), 2},
		{[]byte{0}, 4}, {[]byte{0, 0}, 5}, {[]byte("ab"), 6}, {[]byte{255, 254}, 7}, {[]byte{255}, 8}, {[]byte{0}, 4},
	} {
		if d := x.Sum(c.b); d != c.d {
			t.Errorf("Sum(%q) = %d, want %d", c.b, d, c.d)
		}
	}
	holds(t, x, "a", "b", "", "\x00", "\x00\x00", "ab", "\xff\xfe", "\xff")
}

// P2.1: to look and to open gives no number.
func TestLook(t *testing.T) {
	x := made(t, "a", "b")
	for _, s := range []string{"c", "", "ab", "A", "a\x00"} {
		if d, is := x.Look([]byte(s)); d != 0 || is {
			t.Errorf("Look(%q) = %d, %v", s, d, is)
		}
	}
	holds(t, x, "a", "b")
	if d := x.Sum([]byte("c")); d != 3 {
		t.Error("Sum of what was looked for:", d)
	}
	holds(t, x, "a", "b", "c")
}

// parts are texts as byte strings.
func parts(texts ...string) [][]byte {
	var l [][]byte
	for _, s := range texts {
		l = append(l, []byte(s))
	}
	return l
}

// P2.1: From.
func TestFrom(t *testing.T) {
	for _, texts := range [][]string{{}, {""}, {"a"}, {"b", "a", "", "ab"}} {
		x, e := ideal.From(parts(texts...)...)
		if e != api.OK {
			t.Fatalf("From(%q): %d", texts, e)
		}
		holds(t, x, texts...)
		if d := x.Sum([]byte("new")); d != api.Digest(len(texts)+1) {
			t.Errorf("From(%q) goes on with %d", texts, d)
		}
		again, e := ideal.From(x.Plain()...)
		if e != api.OK {
			t.Fatalf("From of Plain: %d", e)
		}
		holds(t, again, append(texts, "new")...)
	}
	if x, e := ideal.From(nil); e != api.OK || x.Sum([]byte{}) != 1 || x.Len() != 1 {
		t.Error("From of one empty byte string:", e)
	}
	for _, l := range [][][]byte{
		parts("a", "a"), parts("", ""), {nil, {}}, parts("a", "b", "a"), parts("a", "b", "c", "c"),
	} {
		if x, e := ideal.From(l...); x != nil || e != api.ErrTwice {
			t.Errorf("From(%q) = %v, %d", l, x, e)
		}
	}
}

// P2.1: a table has MaxSums byte strings at most, however it came to them.
func TestMaxSums(t *testing.T) {
	l := make([][]byte, api.MaxSums+1)
	for i := range l {
		l[i] = strconv.AppendInt(nil, int64(i), 10)
	}
	late := l[api.MaxSums]
	if x, e := ideal.From(l...); x != nil || e != api.ErrLong {
		t.Error("From of one too many:", e)
	}
	if x, e := ideal.From(make([][]byte, api.MaxSums+1)...); x != nil || e != api.ErrLong {
		t.Error("ErrLong is named ahead of ErrTwice:", e)
	}
	l[api.MaxSums] = l[0]
	if x, e := ideal.From(l[1:]...); x == nil || e != api.OK || x.Len() != api.MaxSums {
		t.Error("From of MaxSums:", e)
	}
	l[api.MaxSums] = late
	l[api.MaxSums-1] = l[5]
	if x, e := ideal.From(l[:api.MaxSums]...); x != nil || e != api.ErrTwice {
		t.Error("From of MaxSums, two of them the same:", e)
	}
	x, e := ideal.From(l[:api.MaxSums-1]...)
	if e != api.OK || x.Sum(late) != api.MaxSums {
		t.Fatal("the last number is not given:", e)
	}
	for _, x := range []*ideal.Table{x, x.Clone()} {
		for _, s := range []string{"new", "", "newer"} {
			if d := x.Sum([]byte(s)); d != 0 {
				t.Errorf("Sum(%q) of a table that is full = %d", s, d)
			}
			if d, is := x.Look([]byte(s)); d != 0 || is {
				t.Errorf("Look(%q) of a table that is full = %d, %v", s, d, is)
			}
		}
		if x.Sum(late) != api.MaxSums || x.Sum(l[0]) != 1 || x.Len() != api.MaxSums {
			t.Error("a table that is full does not know what it has")
		}
		if b, is := x.Open(api.MaxSums); !is || !bytes.Equal(b, late) {
			t.Errorf("Open of the last one = %q, %v", b, is)
		}
		if b, is := x.Open(api.MaxSums + 1); is || b != nil {
			t.Errorf("Open behind the last one = %q, %v", b, is)
		}
	}
}

// P2.1: a clone goes its own way, and so does what it was made of.
func TestTableClone(t *testing.T) {
	for _, texts := range [][]string{{}, {"a"}, {"a", "", "b", "c", "d"}} {
		x := made(t, texts...)
		y := x.Clone()
		z := y.Clone()
		holds(t, y, texts...)
		next := api.Digest(len(texts) + 1)
		if x.Sum([]byte("x")) != next || y.Sum([]byte("y")) != next || y.Sum([]byte("x")) != next+1 {
			t.Error("a clone does not go on as the table would")
		}
		holds(t, x, append(slices.Clone(texts), "x")...)
		holds(t, y, append(slices.Clone(texts), "y", "x")...)
		holds(t, z, texts...)
		if _, is := z.Look([]byte("x")); is {
			t.Error("a clone knows what came to another one")
		}
	}
}

// P2.1: a table that no call made.
func TestTableOfNoCall(t *testing.T) {
	var none *ideal.Table
	for _, x := range []*ideal.Table{none, {}, new(ideal.Table)} {
		for _, b := range [][]byte{nil, {}, []byte("a"), []byte("a")} {
			if d := x.Sum(b); d != 0 {
				t.Errorf("Sum(%q) = %d", b, d)
			}
			if d, is := x.Look(b); d != 0 || is {
				t.Errorf("Look(%q) = %d, %v", b, d, is)
			}
		}
		for _, d := range []api.Digest{0, 1, 2, -1, math.MinInt64, math.MaxInt64} {
			if b, is := x.Open(d); b != nil || is {
				t.Errorf("Open(%d) = %q, %v", d, b, is)
			}
		}
		if x.Len() != 0 || x.Plain() != nil || x.Clone() != nil {
			t.Error("Len, Plain or Clone tell something:", x.Len(), x.Plain(), x.Clone())
		}
	}
	if ideal.NewTable().Clone() == nil {
		t.Error("a clone of a table of no byte strings is one that a call made")
	}
}

// R3: what a table was handed and what it answered are nobody else's.
func TestTableKeepsOff(t *testing.T) {
	b := []byte("abc--")
	l := parts("one", "two")
	x, e := ideal.From(l...)
	if e != api.OK || x.Sum(b[:3]) != 3 {
		t.Fatal(e)
	}
	if string(b) != "abc--" || string(l[0]) != "one" || string(l[1]) != "two" {
		t.Errorf("what was handed in is written to: %q %q", b, l)
	}
	clear(b)
	clear(l[0])
	l[1] = nil
	holds(t, x, "one", "two", "abc")

	o, _ := x.Open(1)
	p := x.Plain()
	clear(o)
	_ = append(o, "more"...)
	_ = append(p[0], "more and more"...)
	if string(p[1]) != "two" || string(p[2]) != "abc" {
		t.Errorf("byte strings of one answer share memory: %q", p)
	}
	for _, q := range p {
		clear(q)
	}
	clear(p[:2])
	_ = append(p[:1], nil, nil)
	holds(t, x, "one", "two", "abc")
}

// P2.3: what comes, and however often, unlike byte strings have unlike numbers, and each keeps its own.
func TestNoTwo(t *testing.T) {
	dice := rand.New(rand.NewSource(2))
	x := ideal.NewTable()
	given := map[string]api.Digest{}
	var order []string
	for range 20000 {
		b := make([]byte, dice.Intn(4))
		for i := range b {
			b[i] = byte(dice.Intn(12) * 23)
		}
		d, known := given[string(b)]
		if g, is := x.Look(b); g != d || is != known {
			t.Fatalf("Look(%v) = %d, %v, want %d, %v", b, g, is, d, known)
		}
		if dice.Intn(3) == 0 {
			continue
		}
		if !known {
			order = append(order, string(b))
			d = api.Digest(len(order))
			given[string(b)] = d
		}
		if g := x.Sum(b); g != d {
			t.Fatalf("Sum(%v) = %d, want %d", b, g, d)
		}
		if dice.Intn(1000) == 0 {
			x = x.Clone()
		}
	}
	holds(t, x, order...)
}

// allocated is how many bytes of memory do takes.
func allocated(do func()) uint64 {
	var a, b runtime.MemStats
	runtime.ReadMemStats(&a)
	do()
	runtime.ReadMemStats(&b)
	return b.TotalAlloc - a.TotalAlloc
}

// THE BOUND: a call for one byte string, or for one signature, does not take what a copy of all the others would.
func TestCallsNearLinear(t *testing.T) {
	x, l := ideal.NewTable(), ideal.NewLedger()
	const many = 1 << 15
	m := allocated(func() {
		for i := range many {
			b := strconv.AppendInt(nil, int64(i), 10)
			d := x.Sum(b)
			if g, is := x.Look(b); !is || g != d {
				t.Fatal("Look:", g, is)
			}
			if _, is := x.Open(d); !is {
				t.Fatal("Open")
			}
			if s, e := l.Sign(i%api.MaxKeys, d); e != api.OK || !l.Signed(s) {
				t.Fatal("Sign:", e)
			}
		}
	})
	if x.Len() != many || l.Len() != many || m > many<<10 {
		t.Errorf("%d byte strings and %d signatures with %d bytes of memory", x.Len(), l.Len(), m)
	}
}
