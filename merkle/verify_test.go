package merkle_test

import (
	"math"
	"slices"
	"testing"

	"bulla/api"
	"bulla/ideal"
	"bulla/merkle"
)

// P5.3: Verify where it is true, told one by one.
func TestVerify(t *testing.T) {
	x := table(t, "\x00a", "\x00b", "\x01\x01\x02", "\x00c", "\x01\x03\x04")
	for _, c := range []struct {
		root  api.Digest
		leaf  string
		i, n  int
		proof []api.Digest
	}{
		{1, "a", 0, 1, nil},
		{4, "c", 0, 1, nil},
		{3, "a", 0, 2, []api.Digest{2}},
		{3, "b", 1, 2, []api.Digest{1}},
		{5, "a", 0, 3, []api.Digest{2, 4}},
		{5, "b", 1, 3, []api.Digest{1, 4}},
		{5, "c", 2, 3, []api.Digest{3}},
	} {
		if !merkle.Verify(x, c.root, []byte(c.leaf), c.i, c.n, c.proof...) {
			t.Errorf("%v is refused", c)
		}
		refuses := func(what string, root api.Digest, leaf string, i, n int, proof ...api.Digest) {
			if merkle.Verify(x, root, []byte(leaf), i, n, proof...) {
				t.Errorf("%v with another %s is taken", c, what)
			}
		}
		for _, root := range []api.Digest{0, 1, 2, 3, 4, 5, 6, -c.root, c.root + 1<<32, math.MaxInt64, math.MinInt64} {
			if root != c.root {
				refuses("root", root, c.leaf, c.i, c.n, c.proof...)
			}
		}
		for _, leaf := range []string{"a", "b", "c", "d", "", "\x00" + c.leaf, c.leaf + "\x00", "\x01\x02"} {
			if leaf != c.leaf {
				refuses("leaf", c.root, leaf, c.i, c.n, c.proof...)
			}
		}
		for _, i := range []int{0, 1, 2, 3, -1, c.n, -c.i - 1, c.i + c.n, c.i - c.n, math.MaxInt, math.MinInt} {
			if i != c.i {
				refuses("place", c.root, c.leaf, i, c.n, c.proof...)
			}
		}
		refuses("proof: one too many", c.root, c.leaf, c.i, c.n, append(slices.Clone(c.proof), 0)...)
		refuses("proof: one too many", c.root, c.leaf, c.i, c.n, append(slices.Clone(c.proof), c.root)...)
		refuses("proof: one too many", c.root, c.leaf, c.i, c.n, append([]api.Digest{c.root}, c.proof...)...)
		if len(c.proof) > 0 {
			refuses("proof: one too few", c.root, c.leaf, c.i, c.n, c.proof[1:]...)
			refuses("proof: one too few", c.root, c.leaf, c.i, c.n, c.proof[:len(c.proof)-1]...)
			refuses("proof: none", c.root, c.leaf, c.i, c.n)
		}
		for j := range c.proof {
			for _, d := range []api.Digest{0, 1, 2, 3, 4, 5, 6, -c.proof[j], c.proof[j] + 1<<32, math.MaxInt64, math.MinInt64} {
				p := slices.Clone(c.proof)
				p[j] = d
				if d != c.proof[j] {
					refuses("proof: another digest", c.root, c.leaf, c.i, c.n, p...)
				}
			}
		}
	}
	if merkle.Verify(x, 5, []byte("a"), 0, 3, 4, 2) {
		t.Error("a proof that is turned round is taken")
	}
	knows(t, x, "\x00a", "\x00b", "\x01\x01\x02", "\x00c", "\x01\x03\x04")
}

// P5.3: places that are none are refused also where no digest is left to be missed.
func TestVerifyNoPlace(t *testing.T) {
	x := ideal.NewTable()
	none, a := merkle.Root(x), merkle.Root(x, []byte("a"))
	for _, n := range []int{-2, -1, 0, 1, math.MinInt} {
		for _, i := range []int{-1, 0, 1, 2, math.MinInt, math.MaxInt, n} {
			for _, root := range []api.Digest{a, none, 0} {
				if merkle.Verify(x, root, []byte("a"), i, n) != (root == a && i == 0 && n == 1) {
					t.Errorf("Verify(%d, a, %d, %d)", root, i, n)
				}
				if merkle.Verify(x, root, nil, i, n) {
					t.Errorf("Verify(%d, nothing, %d, %d)", root, i, n)
				}
			}
		}
	}
}

// P5.3: another number of leaves is taken just where the tree above the leaf is the same one.
func TestVerifyOtherNumbers(t *testing.T) {
	x, m := ideal.NewTable(), newModel()
	l := unlike(9)
	root := merkle.Root(x, parts(l...)...)
	m.root(l...)
	for i := range l {
		p := m.proof(i, l...)
		for n := -3; n < 20; n++ {
			want := false
			if i < n && len(spans(i, n)) == len(p) {
				asks := m.asks(l[i], i, n, p)
				want = m.known[asks[len(asks)-1]] == root
			}
			if merkle.Verify(x, root, []byte(l[i]), i, n, p...) != want {
				t.Errorf("place %d of %d: want %v", i, n, want)
			}
		}
	}
}

// P5.3: where a Sum is not known that is asked for, the answer is false, whatever the root; nothing is learnt.
func TestVerifyUnknown(t *testing.T) {
	for n := 1; n <= 9; n++ {
		l := unlike(n)
		m := newModel()
		root := m.root(l...)
		for i := range n {
			p := m.proof(i, l...)
			for _, missed := range m.asks(l[i], i, n, p) {
				had := slices.Clone(m.texts)
				had[slices.Index(had, missed)] = "something else, so that all others keep their numbers"
				x := table(t, had...)
				for r := api.Digest(-1); r <= root+2; r++ {
					if merkle.Verify(x, r, []byte(l[i]), i, n, p...) {
						t.Errorf("place %d of %d is taken under %d without %q", i, n, r, missed)
					}
				}
				knows(t, x, had...)
			}
		}
	}
}

// P5.3: what the table does not know is no 0, also where a Node of 0 is known.
func TestVerifyNodesOfNone(t *testing.T) {
	had := []string{nodeText(0, 0), nodeText(0, 2), nodeText(2, 0), nodeText(1, 2), nodeText(2, 1)}
	x := table(t, had...)
	for root := api.Digest(-1); root < 7; root++ {
		for d := api.Digest(-1); d < 7; d++ {
			for i := range 2 {
				if merkle.Verify(x, root, []byte("new"), i, 2, d) {
					t.Errorf("an unknown leaf at %d is taken under %d by %d", i, root, d)
				}
			}
			for e := api.Digest(-1); e < 7; e++ {
				if merkle.Verify(x, root, []byte("new"), 1, 3, d, e) {
					t.Errorf("an unknown leaf is taken under %d by %d, %d", root, d, e)
				}
			}
		}
	}
	knows(t, x, had...)
}

// P5.3: a digest below 0 counts as 0 in a proof, as it does for Node.
func TestVerifyBelowNone(t *testing.T) {
	x := table(t, "\x00a", "\x01\x01\x00", "\x01\x00\x01")
	for _, d := range []api.Digest{0, -1, -7, math.MinInt64} {
		if !merkle.Verify(x, 2, []byte("a"), 0, 2, d) || !merkle.Verify(x, 3, []byte("a"), 1, 2, d) {
			t.Errorf("%d does not count as 0", d)
		}
		if merkle.Verify(x, 3, []byte("a"), 0, 2, d) || merkle.Verify(x, 2, []byte("a"), 1, 2, d) {
			t.Errorf("%d is taken at another place", d)
		}
	}
	knows(t, x, "\x00a", "\x01\x01\x00", "\x01\x00\x01")
}

// P5.3: trees of more leaves than anybody has, from a chain of Nodes that somebody asked for.
func TestVerifyGreatNumbers(t *testing.T) {
	for _, c := range []struct{ i, n int }{
		{0, math.MaxInt}, {math.MaxInt - 1, math.MaxInt}, {math.MaxInt - 2, math.MaxInt}, {1<<61 + 12345, math.MaxInt},
		{1 << 62, 1<<62 + 1}, {0, 1<<62 + 1}, {1<<62 - 1, 1 << 62},
	} {
		x := ideal.NewTable()
		d := merkle.Leaf(x, []byte("a"))
		var p []api.Digest
		for j, s := range spans(c.i, c.n) {
			p = append(p, api.Digest(1000+j))
			if s.ahead {
				d = merkle.Node(x, p[j], d)
			} else {
				d = merkle.Node(x, d, p[j])
			}
		}
		had := x.Len()
		if !merkle.Verify(x, d, []byte("a"), c.i, c.n, p...) {
			t.Errorf("place %d of %d is refused", c.i, c.n)
		}
		for _, i := range []int{c.i - 1, c.i + 1, -1, c.n, math.MinInt, math.MaxInt} {
			if merkle.Verify(x, d, []byte("a"), i, c.n, p...) {
				t.Errorf("place %d of %d is taken for %d", i, c.n, c.i)
			}
		}
		p[0]++
		if merkle.Verify(x, d, []byte("a"), c.i, c.n, p...) || merkle.Verify(x, d, []byte("a"), c.i, c.n, p[1:]...) {
			t.Errorf("place %d of %d is taken with another proof", c.i, c.n)
		}
		if x.Len() != had {
			t.Error("Verify learns something")
		}
	}
}

// R5: a table that no call made.
func TestVerifyOfNoCall(t *testing.T) {
	for _, x := range tablesOfNoCall() {
		for _, root := range []api.Digest{-1, 0, 1} {
			for _, i := range []int{-1, 0, 1, 2} {
				if merkle.Verify(x, root, nil, i, 1) || merkle.Verify(x, root, []byte("a"), i, 2, 0) || merkle.Verify(x, root, []byte("a"), i, 3, 0, 0) {
					t.Errorf("place %d is taken under %d", i, root)
				}
			}
		}
		knows(t, x)
	}
	for _, root := range []api.Digest{-1, 0, 1} {
		if merkle.Verify(ideal.NewTable(), root, nil, 0, 1) {
			t.Errorf("a table of nothing takes a leaf under %d", root)
		}
	}
}

// R3: a proof that is handed in is not written to, nor a leaf.
func TestVerifyWritesNothing(t *testing.T) {
	x := ideal.NewTable()
	l := parts(unlike(6)...)
	root := merkle.Root(x, l...)
	p, _ := merkle.Prove(x, 2, l...)
	room := append(slices.Clone(p), 41, 42)
	leaf := []byte("2345")
	for _, r := range []api.Digest{root, 0} {
		if merkle.Verify(x, r, leaf[:1], 2, 6, room[:len(p)]...) != (r == root) {
			t.Error("Verify under", r)
		}
	}
	if !slices.Equal(room, append(p, 41, 42)) || string(leaf) != "2345" {
		t.Errorf("what was handed in is written to: %v, %q", room, leaf)
	}
}
