package merkle_test

import (
	"math"
	"slices"
	"testing"

	"bulla/api"
	"bulla/ideal"
	"bulla/merkle"
)

// P5.2: Prove, what it answers and asks for told one by one: it asks for the parts beside the leaf alone.
func TestProve(t *testing.T) {
	for _, c := range []struct {
		leaves []string
		i      int
		proof  []api.Digest
		asked  []string
	}{
		{[]string{""}, 0, nil, nil},
		{[]string{"a"}, 0, nil, nil},
		{[]string{"a", "b"}, 0, []api.Digest{1}, []string{"\x00b"}},
		{[]string{"a", "b"}, 1, []api.Digest{1}, []string{"\x00a"}},
		{[]string{"a", "a"}, 1, []api.Digest{1}, []string{"\x00a"}},
		{[]string{"a", "b", "c"}, 0, []api.Digest{1, 2}, []string{"\x00b", "\x00c"}},
		{[]string{"a", "b", "c"}, 1, []api.Digest{1, 2}, []string{"\x00a", "\x00c"}},
		{[]string{"a", "b", "c"}, 2, []api.Digest{3}, []string{"\x00a", "\x00b", "\x01\x01\x02"}},
		{[]string{"a", "b", "c", "d"}, 1, []api.Digest{1, 4}, []string{"\x00a", "\x00c", "\x00d", "\x01\x02\x03"}},
		{[]string{"a", "b", "c", "d"}, 2, []api.Digest{1, 4}, []string{"\x00d", "\x00a", "\x00b", "\x01\x02\x03"}},
		{[]string{"a", "b", "c", "d", "e"}, 3, []api.Digest{1, 4, 5}, []string{"\x00c", "\x00a", "\x00b", "\x01\x02\x03", "\x00e"}},
		{
			[]string{"a", "b", "c", "d", "e"}, 4, []api.Digest{7},
			[]string{"\x00a", "\x00b", "\x01\x01\x02", "\x00c", "\x00d", "\x01\x04\x05", "\x01\x03\x06"},
		},
	} {
		x := ideal.NewTable()
		p, e := merkle.Prove(x, c.i, parts(c.leaves...)...)
		if !slices.Equal(p, c.proof) || e != api.OK {
			t.Errorf("Prove(%d, %q) = %v, %d, want %v", c.i, c.leaves, p, e, c.proof)
		}
		knows(t, x, c.asked...)
	}
}

// P5.2: the chapter's example.
func TestProveOfThree(t *testing.T) {
	x := ideal.NewTable()
	l := parts("a", "b", "c")
	merkle.Root(x, l...)
	a, b, c := merkle.Leaf(x, l[0]), merkle.Leaf(x, l[1]), merkle.Leaf(x, l[2])
	for i, want := range [][]api.Digest{{b, c}, {a, c}, {merkle.Node(x, a, b)}} {
		if p, e := merkle.Prove(x, i, l...); !slices.Equal(p, want) || e != api.OK {
			t.Errorf("Prove(%d) = %v, %d, want %v", i, p, e, want)
		}
	}
}

// P5.2: Prove answers and asks as the model does, in its order, of a new table and of one that knows the list's Root.
func TestProveAsTheModel(t *testing.T) {
	for _, n := range sizes() {
		for _, l := range lists(n) {
			rooted := newModel()
			rooted.root(l...)
			for i := range n {
				for _, had := range [][]string{nil, rooted.texts} {
					x, m := table(t, had...), newModel(had...)
					p, e := merkle.Prove(x, i, parts(l...)...)
					if want := m.proof(i, l...); !slices.Equal(p, want) || e != api.OK || len(p) != merkle.Length(i, n) {
						t.Errorf("Prove(%d) of %d leaves = %v, %d, want %v", i, n, p, e, want)
					}
					knows(t, x, m.texts...)
				}
			}
		}
	}
}

// P5.2: places that are none; nothing is learnt then.
func TestProveNoPlace(t *testing.T) {
	for _, had := range [][]string{nil, {"x"}} {
		x := table(t, had...)
		for _, n := range sizes() {
			for _, i := range []int{-1, -2, -n - 1, math.MinInt, n, n + 1, 2*n + 1, math.MaxInt} {
				if p, e := merkle.Prove(x, i, parts(unlike(n)...)...); p != nil || e != api.ErrArg {
					t.Errorf("Prove(%d) of %d leaves = %v, %d", i, n, p, e)
				}
			}
		}
		knows(t, x, had...)
	}
}

// P5.2, R5: a table that no call made; ErrMade is named ahead of ErrArg.
func TestProveOfNoCall(t *testing.T) {
	for _, x := range tablesOfNoCall() {
		for _, i := range []int{0, 1, 2, -1, 5, math.MaxInt, math.MinInt} {
			for _, l := range [][][]byte{nil, parts("a"), parts("a", "b", "c")} {
				if p, e := merkle.Prove(x, i, l...); p != nil || e != api.ErrMade {
					t.Errorf("Prove(%d) of %d leaves = %v, %d", i, len(l), p, e)
				}
			}
		}
	}
}

// P5.2: a table of nothing is one that a call made, however it came to be.
func TestProveOfEmptyTables(t *testing.T) {
	for _, x := range []*ideal.Table{ideal.NewTable(), table(t), ideal.NewTable().Clone()} {
		if p, e := merkle.Prove(x, 0, nil); len(p) != 0 || e != api.OK {
			t.Error("Prove of one leaf:", p, e)
		}
		if p, e := merkle.Prove(x, 1, nil); p != nil || e != api.ErrArg {
			t.Error("Prove of no place:", p, e)
		}
		knows(t, x)
		if p, e := merkle.Prove(x, 1, nil, nil); !slices.Equal(p, []api.Digest{1}) || e != api.OK {
			t.Error("Prove of two leaves:", p, e)
		}
		knows(t, x, "\x00")
	}
}

// P5.2: Length.
func TestLength(t *testing.T) {
	for n := range 300 {
		for i := range n {
			if k := merkle.Length(i, n); k != len(spans(i, n)) {
				t.Errorf("Length(%d, %d) = %d, want %d", i, n, k, len(spans(i, n)))
			}
		}
	}
	for _, c := range []struct{ i, n, want int }{
		{0, 1, 0}, {0, 2, 1}, {1, 2, 1}, {1, 3, 2}, {2, 3, 1}, {3, 5, 3}, {4, 5, 1},
		{0, 1 << 62, 62}, {1<<62 - 1, 1 << 62, 62},
		{0, 1<<62 + 1, 63}, {1<<62 - 1, 1<<62 + 1, 63}, {1 << 62, 1<<62 + 1, 1},
		{0, 1<<62 - 1, 62}, {1<<62 - 2, 1<<62 - 1, 61},
		{0, math.MaxInt, 63}, {1<<62 - 1, math.MaxInt, 63}, {1 << 62, math.MaxInt, 63}, {math.MaxInt - 1, math.MaxInt, 62}, {math.MaxInt - 2, math.MaxInt, 63},
	} {
		if k := merkle.Length(c.i, c.n); k != c.want {
			t.Errorf("Length(%d, %d) = %d, want %d", c.i, c.n, k, c.want)
		}
	}
}

// P5.2: the Length of what is no place.
func TestLengthNoPlace(t *testing.T) {
	for _, n := range []int{-5, -1, 0, 1, 2, 7, 8, 9, math.MinInt, math.MaxInt} {
		for _, i := range []int{math.MinInt, -9, -8, -1, n, n + 1, math.MaxInt} {
			if k := merkle.Length(i, n); (i >= n || i < 0) && k != 0 {
				t.Errorf("Length(%d, %d) = %d", i, n, k)
			}
		}
	}
}

// R3: a proof is nobody else's.
func TestProofsAreTheirOwners(t *testing.T) {
	x := ideal.NewTable()
	l := parts(unlike(7)...)
	root := merkle.Root(x, l...)
	p, _ := merkle.Prove(x, 3, l...)
	q, _ := merkle.Prove(x, 3, l...)
	want := slices.Clone(p)
	_ = append(p, 7, 7)
	clear(p)
	if !slices.Equal(q, want) || !merkle.Verify(x, root, l[3], 3, 7, q...) || !slices.Equal(q, want) {
		t.Errorf("%v, want %v", q, want)
	}
	if again, e := merkle.Prove(x, 3, l...); !slices.Equal(again, want) || e != api.OK {
		t.Errorf("again: %v, %d, want %v", again, e, want)
	}
}
