package merkle_test

import (
	"math/rand"
	"slices"
	"strconv"
	"testing"

	"bulla/api"
	"bulla/ideal"
	"bulla/merkle"
)

// proofs hands each list of so many digests from -1 to most to try.
func proofs(digests int, most api.Digest, try func(...api.Digest)) {
	p := make([]api.Digest, digests)
	var fill func(j int)
	fill = func(j int) {
		if j == digests {
			try(p...)
			return
		}
		for p[j] = -1; p[j] <= most; p[j]++ {
			fill(j + 1)
		}
	}
	fill(0)
}

// listsOf are all lists of up to most leaves of these.
func listsOf(most int, leaves ...string) [][]string {
	all := [][]string{nil}
	begin := 0
	for range most {
		end := len(all)
		for _, l := range all[begin:end] {
			for _, b := range leaves {
				all = append(all, append(slices.Clone(l), b))
			}
		}
		begin = end
	}
	return all
}

// same tells whether Prove of the list answers what Verify takes under root, at each place.
func same(t *testing.T, x *ideal.Table, root api.Digest, l [][]byte) {
	t.Helper()
	for i := range l {
		p, e := merkle.Prove(x, i, l...)
		if e != api.OK || len(p) != merkle.Length(i, len(l)) {
			t.Errorf("Prove(%d) of %d leaves: %v, %d", i, len(l), p, e)
		}
		if !merkle.Verify(x, root, l[i], i, len(l), p...) {
			t.Errorf("place %d of %d leaves is refused", i, len(l))
		}
	}
}

// P5.4: what Prove answers, Verify takes: in the table, in its clone, in the table of what it knows, whatever else it knows.
func TestComplete(t *testing.T) {
	x := ideal.NewTable()
	for _, n := range sizes() {
		for _, texts := range lists(n) {
			l := parts(texts...)
			for i := range l {
				merkle.Prove(x, i, l...) // proofs that are older than the Root
			}
			root := merkle.Root(x, l...)
			same(t, x, root, l)
			if n < 10 {
				same(t, x.Clone(), root, l)
				y, e := ideal.From(x.Plain()...)
				if e != api.OK {
					t.Fatal("From:", e)
				}
				same(t, y, root, l)
			}
		}
	}
}

// P5.5: each leaf, at each place of each small list, with each proof of digests that there are.
func TestSound(t *testing.T) {
	x := ideal.NewTable()
	lists := listsOf(4, "", "a")
	for _, l := range lists {
		merkle.Root(x, parts(l...)...)
	}
	known := api.Digest(x.Len())
	leaves := []string{"", "a", "\x01\x01\x02", "\x00", "\x00a"}
	for _, s := range leaves {
		merkle.Leaf(x, []byte(s))
	}
	most := known + 2 // the leaves that are in no list stand behind
	for _, l := range lists[1:] {
		n := len(l)
		root := merkle.Root(x, parts(l...)...)
		for i := range l {
			for _, s := range leaves {
				b, taken := []byte(s), 0
				proofs(merkle.Length(i, n), most, func(p ...api.Digest) {
					if merkle.Verify(x, root, b, i, n, p...) {
						taken++
					}
				})
				if s == l[i] && taken != 1 || s != l[i] && taken != 0 {
					t.Errorf("%q at %d of %q: %d proofs are taken", s, i, l, taken)
				}
			}
		}
	}
}

// P5.5: two leaves never stand at one place, nor one leaf at another one's, by any proofs of greater lists, turned here and there.
func TestSoundOfGreaterLists(t *testing.T) {
	dice := rand.New(rand.NewSource(5))
	x := ideal.NewTable()
	for range 60 {
		n := 1 + dice.Intn(40)
		texts := make([]string, n)
		for i := range texts {
			texts[i] = strconv.Itoa(dice.Intn(n))
		}
		l := parts(texts...)
		root := merkle.Root(x, l...)
		for i := range l {
			p, _ := merkle.Prove(x, i, l...)
			for j := range l { // also at the place i, where the leaf j is the same
				q, _ := merkle.Prove(x, j, l...)
				for _, p := range [][]api.Digest{p, q, turned(dice, p, x), turned(dice, q, x)} {
					if merkle.Verify(x, root, l[j], i, n, p...) && texts[j] != texts[i] {
						t.Fatalf("%q stands at %d of %q by %v", texts[j], i, texts, p)
					}
				}
			}
		}
	}
}

// turned is a proof with a digest more, or less, or other ones.
func turned(dice *rand.Rand, p []api.Digest, x *ideal.Table) []api.Digest {
	p = slices.Clone(p)
	other := api.Digest(dice.Intn(x.Len()+2) - 1)
	switch at := dice.Intn(len(p) + 1); {
	case at == len(p):
		p = append(p, other)
	case dice.Intn(3) == 0:
		p = slices.Delete(p, at, at+1)
	case dice.Intn(2) == 0:
		p[at], p[0] = p[0], p[at]
	default:
		p[at] = other
	}
	return p
}

// P5.6: no two small lists have one Root, leaves that look like nodes among them.
func TestRootsAreUnlike(t *testing.T) {
	x := ideal.NewTable()
	merkle.Root(x, parts("", "a", "b")...) // so that 1 to 5 are known, and what looks like a node is one
	had := map[api.Digest][]string{}
	for _, l := range listsOf(5, "", "a", "\x01\x01\x02", "\x01\x02", "\x02") {
		d := merkle.Root(x, parts(l...)...)
		if other, is := had[d]; is || d == 0 {
			t.Errorf("%q and %q have the Root %d", l, other, d)
		}
		had[d] = l
	}
}

// P5.6: a list that begins another one, lists of leaves that are alike, a list whose leaves are another one's nodes.
func TestRootsOfBeginnings(t *testing.T) {
	x := ideal.NewTable()
	had := map[api.Digest]int{}
	for n := range 300 {
		for _, l := range [][]string{unlike(n), slices.Repeat([]string{"a"}, n), slices.Repeat([]string{"aa"}, n)} {
			d := merkle.Root(x, parts(l...)...)
			if other, is := had[d]; (is || d == 0) && n > 0 { // of no leaves all three are the same
				t.Errorf("lists of %d and of %d leaves have the Root %d", other, n, d)
			}
			had[d] = n
		}
	}
	for n := 2; n <= 64; n *= 2 {
		l := unlike(n)
		var nodes, inner []string
		for i := 0; i < n; i += 2 {
			text := nodeText(merkle.Leaf(x, []byte(l[i])), merkle.Leaf(x, []byte(l[i+1])))
			nodes, inner = append(nodes, text), append(inner, text[1:])
		}
		root := merkle.Root(x, parts(l...)...)
		if root == merkle.Root(x, parts(nodes...)...) || root == merkle.Root(x, parts(inner...)...) {
			t.Errorf("nodes are taken for leaves: %d", n)
		}
		for i, s := range nodes {
			p, _ := merkle.Prove(x, 2*i, parts(l...)...)
			if merkle.Verify(x, root, []byte(s), i, n/2, p[1:]...) || merkle.Verify(x, root, []byte(s[1:]), i, n/2, p[1:]...) {
				t.Errorf("the node %d stands as a leaf among %d", i, n/2)
			}
		}
	}
}

// P5.6: of more lists: whatever two of them have one Root are the same.
func TestRootsOfManyLists(t *testing.T) {
	dice := rand.New(rand.NewSource(7))
	x := ideal.NewTable()
	had := map[api.Digest][]string{}
	for range 5000 {
		l := make([]string, dice.Intn(12))
		for i := range l {
			l[i] = "0123456789"[:dice.Intn(3)]
		}
		d := merkle.Root(x, parts(l...)...)
		if other, is := had[d]; is && !slices.Equal(other, l) {
			t.Fatalf("%q and %q have one Root", l, other)
		}
		had[d] = l
	}
}
