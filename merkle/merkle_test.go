package merkle_test

import (
	"bytes"
	"math"
	"slices"
	"strconv"
	"strings"
	"testing"

	"bulla/api"
	"bulla/ideal"
	"bulla/merkle"
)

// P5.1: Leaf.
func TestLeaf(t *testing.T) {
	x := ideal.NewTable()
	var want []string
	for _, b := range []string{"", "a", "\x00", "\x01", "\x02", "\x00\x00", "\x01\x01\x02", "ab", "\xff", strings.Repeat("x", 1000)} {
		want = append(want, "\x00"+b)
		for range 2 { // the second time it is known
			if d := merkle.Leaf(x, []byte(b)); d != api.Digest(len(want)) {
				t.Errorf("Leaf(%q) = %d, want %d", b, d, len(want))
			}
		}
	}
	if merkle.Leaf(x, nil) != 1 || merkle.Leaf(x, []byte{}) != 1 {
		t.Error("nil is not the leaf of no bytes")
	}
	knows(t, x, want...)
}

// P5.1: Node, the bytes told one by one.
func TestNode(t *testing.T) {
	x := ideal.NewTable()
	var want []string
	for _, c := range []struct {
		left, right api.Digest
		text        string
	}{
		{0, 0, "\x01\x00\x00"},
		{1, 2, "\x01\x01\x02"},
		{2, 1, "\x01\x02\x01"},
		{1, 1, "\x01\x01\x01"},
		{127, 128, "\x01\x7f\x80\x01"},
		{300, 5, "\x01\xac\x02\x05"},
		{0, 7, "\x01\x00\x07"},
		{7, 0, "\x01\x07\x00"},
		{math.MaxInt64, 1, "\x01\xff\xff\xff\xff\xff\xff\xff\xff\x7f\x01"},
	} {
		want = append(want, c.text)
		for range 2 {
			if d := merkle.Node(x, c.left, c.right); d != api.Digest(len(want)) {
				t.Errorf("Node(%d, %d) = %d, want %d", c.left, c.right, d, len(want))
			}
		}
	}
	knows(t, x, want...)
}

// P5.1: a number below 0 counts as 0.
func TestNodeBelowNone(t *testing.T) {
	x := table(t, "\x01\x00\x00", "\x01\x00\x07", "\x01\x07\x00")
	for _, d := range []api.Digest{-1, -7, -128, math.MinInt64} {
		if merkle.Node(x, d, d) != 1 || merkle.Node(x, d, 0) != 1 || merkle.Node(x, 0, d) != 1 ||
			merkle.Node(x, d, 7) != 2 || merkle.Node(x, 7, d) != 3 {
			t.Errorf("%d does not count as 0", d)
		}
	}
	knows(t, x, "\x01\x00\x00", "\x01\x00\x07", "\x01\x07\x00")
}

// P5.1: Split.
func TestSplit(t *testing.T) {
	for _, n := range []int{1, 0, -1, -2, -4, math.MinInt, math.MinInt + 1} {
		if k := merkle.Split(n); k != 0 {
			t.Errorf("Split(%d) = %d", n, k)
		}
	}
	for n := 2; n <= 5000; n++ {
		want := 1
		for 2*want < n {
			want *= 2
		}
		if k := merkle.Split(n); k != want {
			t.Errorf("Split(%d) = %d, want %d", n, k, want)
		}
	}
	for k := 2; k <= 1<<61; k *= 2 {
		if merkle.Split(k) != k/2 || merkle.Split(k+1) != k || merkle.Split(2*k-1) != k || merkle.Split(2*k) != k {
			t.Errorf("Split at %d: %d, %d, %d, %d", k, merkle.Split(k), merkle.Split(k+1), merkle.Split(2*k-1), merkle.Split(2*k))
		}
	}
	if merkle.Split(1<<62) != 1<<61 || merkle.Split(1<<62+1) != 1<<62 || merkle.Split(math.MaxInt) != 1<<62 {
		t.Error("Split of the greatest numbers")
	}
}

// P5.1: Root, what it asks for told one by one.
func TestRoot(t *testing.T) {
	for _, c := range []struct {
		leaves []string
		asked  []string
	}{
		{nil, []string{"\x02"}},
		{[]string{""}, []string{"\x00"}},
		{[]string{"a"}, []string{"\x00a"}},
		{[]string{"a", "b"}, []string{"\x00a", "\x00b", "\x01\x01\x02"}},
		{[]string{"a", "a"}, []string{"\x00a", "\x01\x01\x01"}},
		{[]string{"a", "b", "c"}, []string{"\x00a", "\x00b", "\x01\x01\x02", "\x00c", "\x01\x03\x04"}},
		{[]string{"a", "b", "c", "d"}, []string{"\x00a", "\x00b", "\x01\x01\x02", "\x00c", "\x00d", "\x01\x04\x05", "\x01\x03\x06"}},
		{
			[]string{"a", "b", "c", "d", "e"},
			[]string{"\x00a", "\x00b", "\x01\x01\x02", "\x00c", "\x00d", "\x01\x04\x05", "\x01\x03\x06", "\x00e", "\x01\x07\x08"},
		},
	} {
		x := ideal.NewTable()
		if d := merkle.Root(x, parts(c.leaves...)...); d != api.Digest(len(c.asked)) { // the last Sum that is asked for
			t.Errorf("Root(%q) = %d", c.leaves, d)
		}
		knows(t, x, c.asked...)
	}
	if x := ideal.NewTable(); merkle.Root(x, [][]byte{}...) != 1 || merkle.Root(x, nil, nil) != 3 {
		t.Error("an empty list, or leaves that are nil")
	}
}

// P5.1: the chapter's example.
func TestRootOfThree(t *testing.T) {
	x := ideal.NewTable()
	a, b, c := []byte("a"), []byte("b"), []byte("c")
	root := merkle.Root(x, a, b, c)
	had := x.Len()
	if d := merkle.Node(x, merkle.Node(x, merkle.Leaf(x, a), merkle.Leaf(x, b)), merkle.Leaf(x, c)); d != root {
		t.Errorf("Root %d, by Node and Leaf %d", root, d)
	}
	if x.Len() != had {
		t.Error("Root has not asked for all of it")
	}
}

// P5.1: Root asks as the model does, and in its order, of a new table and of one that knows something.
func TestRootAsTheModel(t *testing.T) {
	some := []string{"", "\x02", "\x01\x01\x02", "\x002", "\x00a", "\x01\x05\x05", "\x00\x01\x01\x02"}
	one, all := ideal.NewTable(), newModel()
	for _, n := range sizes() {
		for i, l := range lists(n) {
			for _, had := range [][]string{nil, some} {
				x, m := table(t, had...), newModel(had...)
				if d, want := merkle.Root(x, parts(l...)...), m.root(l...); d != want {
					t.Errorf("Root of list %d of %d leaves = %d, want %d", i, n, d, want)
				}
				knows(t, x, m.texts...)
			}
			if d, want := merkle.Root(one, parts(l...)...), all.root(l...); d != want {
				t.Errorf("Root of list %d of %d leaves, with others ahead = %d, want %d", i, n, d, want)
			}
		}
	}
	knows(t, one, all.texts...)
}

// P5.1: of more leaves it is Node of the parts' Roots.
func TestRootOfParts(t *testing.T) {
	x := ideal.NewTable()
	for _, n := range sizes() {
		l := parts(unlike(n)...)
		want := merkle.Root(x)
		switch k := merkle.Split(n); {
		case n == 1:
			want = merkle.Leaf(x, l[0])
		case n > 1:
			want = merkle.Node(x, merkle.Root(x, l[:k]...), merkle.Root(x, l[k:]...))
		}
		if d := merkle.Root(x, l...); d != want {
			t.Errorf("Root of %d leaves = %d, want %d", n, d, want)
		}
	}
}

// R5: a table that no call made has no digests.
func TestDigestsOfNoCall(t *testing.T) {
	for _, x := range tablesOfNoCall() {
		if merkle.Leaf(x, []byte("a")) != 0 || merkle.Leaf(x, nil) != 0 || merkle.Node(x, 1, 2) != 0 || merkle.Node(x, -1, 0) != 0 {
			t.Error("Leaf or Node tells something")
		}
		for _, n := range sizes() {
			if d := merkle.Root(x, parts(unlike(n)...)...); d != 0 {
				t.Errorf("Root of %d leaves = %d", n, d)
			}
		}
		knows(t, x)
	}
}

// full is a table that knows these texts, and others, and has room for so many more.
func full(t *testing.T, room int, texts ...string) *ideal.Table {
	t.Helper()
	l := parts(texts...)
	for i := len(l); i < api.MaxSums-room; i++ {
		l = append(l, strconv.AppendInt(nil, int64(i), 10))
	}
	x, e := ideal.From(l...)
	if e != api.OK {
		t.Fatal("From:", e)
	}
	return x
}

// P5.1 to P5.3: a table that is full gives no number, and what it knows it still tells. A 0 that it told is no digest to which a proof could lead.
func TestFullTable(t *testing.T) {
	x := full(t, 1, nodeText(0, 0), nodeText(api.MaxSums, 0), leafText("k"), nodeText(3, 3))
	const last = api.MaxSums
	a, b, k := []byte("a"), []byte("b"), []byte("k")
	if d := merkle.Root(x, a, b); d != 2 { // a has the last number, b none
		t.Error("Root where one leaf has room:", d)
	}
	if merkle.Leaf(x, a) != last || merkle.Leaf(x, b) != 0 || merkle.Root(x) != 0 || merkle.Node(x, 1, 1) != 0 {
		t.Error("a table that is full gives numbers")
	}
	if merkle.Root(x, b, b) != 1 || merkle.Root(x, k, k) != 4 || merkle.Root(x, b, k) != 0 {
		t.Error("a table that is full does not know what it has")
	}
	if p, e := merkle.Prove(x, 0, k, b); !slices.Equal(p, []api.Digest{0}) || e != api.OK {
		t.Error("Prove:", p, e)
	}
	if merkle.Verify(x, 2, b, 1, 2, last) || merkle.Verify(x, 1, b, 0, 2, 0) || merkle.Verify(x, 0, b, 0, 1) || merkle.Verify(x, 0, k, 0, 2, 0) {
		t.Error("Verify takes what the table does not know")
	}
	if !merkle.Verify(x, 2, a, 0, 2, 0) || !merkle.Verify(x, 4, k, 0, 2, 3) || !merkle.Verify(x, 4, k, 1, 2, 3) {
		t.Error("Verify refuses what the table knows")
	}
}

// R3: leaves are not written to, nor what stands behind them, and not kept.
func TestLeavesAreTheirOwners(t *testing.T) {
	all := []byte("abcdefgh")
	l := [][]byte{all[0:2], all[2:4:4], nil, all[4:4], all[1:5], all[6:7]} // with room behind them
	list := slices.Clone(l)
	x, m := ideal.NewTable(), newModel()
	texts := []string{"ab", "cd", "", "", "bcde"}
	root := merkle.Root(x, list[:5]...)
	p, e := merkle.Prove(x, 1, list[:5]...)
	if root != m.root(texts...) || !slices.Equal(p, m.proof(1, texts...)) || e != api.OK {
		t.Error("Root or Prove:", root, p, e)
	}
	if !merkle.Verify(x, root, list[1], 1, 5, p...) {
		t.Error("Verify")
	}
	merkle.Leaf(x, all[:1])
	m.sum(leafText("a"))
	for i := range l {
		if !bytes.Equal(list[i], l[i]) || len(list[i]) > 0 && &list[i][0] != &l[i][0] {
			t.Errorf("leaf %d is another one", i)
		}
	}
	if string(all) != "abcdefgh" {
		t.Errorf("leaves are written to: %q", all)
	}
	clear(all)
	clear(list)
	knows(t, x, m.texts...)
}

// THE BOUND: memory grows with the leaves, not with their square, nor with the table.
func TestBound(t *testing.T) {
	l := slices.Repeat([][]byte{[]byte("a")}, 1<<15)
	x := ideal.NewTable()
	if m := allocated(func() { merkle.Root(x, l...) }); m > 1<<23 {
		t.Errorf("Root takes %d bytes of memory", m)
	}
	for _, i := range []int{0, 1<<15 - 1} {
		if m := allocated(func() { merkle.Prove(x, i, l...) }); m > 1<<23 {
			t.Errorf("Prove takes %d bytes of memory", m)
		}
	}
	long := make([]byte, 1<<20)
	if m := allocated(func() { merkle.Root(x, long) }); m > 1<<23 {
		t.Errorf("Root of a long leaf takes %d bytes of memory", m)
	}
	root := merkle.Root(x, long, l[0])
	if m := allocated(func() { merkle.Verify(x, root, long, 0, 2, merkle.Leaf(x, l[0])) }); m > 1<<22 {
		t.Errorf("Verify of a long leaf takes %d bytes of memory", m)
	}
	if m := allocated(func() { merkle.Verify(x, root, long, 0, math.MaxInt, 1) }); m > 1<<16 {
		t.Errorf("Verify of a proof that is too short takes %d bytes of memory", m)
	}
	for i := range 100_000 {
		x.Sum(strconv.AppendInt(nil, int64(i), 10))
	}
	if m := allocated(func() { merkle.Prove(x, 1, l[:2]...) }); m > 1<<16 {
		t.Errorf("Prove of two leaves takes %d bytes of memory in a great table", m)
	}
}
