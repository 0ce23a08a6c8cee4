package merkle_test

import (
	"encoding/binary"
	"runtime"
	"slices"
	"strconv"
	"testing"

	"bulla/api"
	"bulla/ideal"
)

// model is a table and the trees over it, told without the program's help: roots by a stack of whole trees, paths by ranges of places.
type model struct {
	texts []string
	known map[string]api.Digest
}

func newModel(texts ...string) *model {
	m := &model{known: map[string]api.Digest{}}
	for _, s := range texts {
		m.sum(s)
	}
	return m
}

func (m *model) sum(text string) api.Digest {
	d, is := m.known[text]
	if !is {
		m.texts = append(m.texts, text)
		d = api.Digest(len(m.texts))
		m.known[text] = d
	}
	return d
}

func leafText(b string) string {
	return "\x00" + b
}

func nodeText(left, right api.Digest) string {
	b := binary.AppendUvarint([]byte{1}, uint64(left))
	return string(binary.AppendUvarint(b, uint64(right)))
}

func (m *model) root(leaves ...string) api.Digest {
	if len(leaves) == 0 {
		return m.sum("\x02")
	}
	var stack []api.Digest
	join := func() {
		n := len(stack)
		stack = append(stack[:n-2], m.sum(nodeText(stack[n-2], stack[n-1])))
	}
	for i, b := range leaves {
		stack = append(stack, m.sum(leafText(b)))
		for n := i + 1; n%2 == 0; n /= 2 {
			join()
		}
	}
	for len(stack) > 1 {
		join()
	}
	return stack[0]
}

// span is a part that stands beside a place: ahead of it or behind it.
type span struct {
	from, to int
	ahead    bool
}

// spans are the parts beside the place i of n, the innermost one first.
func spans(i, n int) []span {
	var l []span
	for from, to := 0, n; to-from > 1; {
		k := 1
		for k < to-from-k { // 2k could wrap round
			k *= 2
		}
		if i < from+k {
			l = append(l, span{from + k, to, false})
			to = from + k
		} else {
			l = append(l, span{from, from + k, true})
			from += k
		}
	}
	slices.Reverse(l)
	return l
}

func (m *model) proof(i int, leaves ...string) []api.Digest {
	var l []api.Digest
	for _, s := range spans(i, len(leaves)) {
		l = append(l, m.root(leaves[s.from:s.to]...))
	}
	return l
}

// asks are the texts that Verify is to look for, one behind the other, as long as the model knows them.
func (m *model) asks(leaf string, i, n int, proof []api.Digest) []string {
	l := []string{leafText(leaf)}
	for j, s := range spans(i, n) {
		d := m.known[l[len(l)-1]]
		if s.ahead {
			l = append(l, nodeText(proof[j], d))
		} else {
			l = append(l, nodeText(d, proof[j]))
		}
	}
	return l
}

// parts are texts as byte strings.
func parts(texts ...string) [][]byte {
	var l [][]byte
	for _, s := range texts {
		l = append(l, []byte(s))
	}
	return l
}

// table is a table that knows just these texts.
func table(t *testing.T, texts ...string) *ideal.Table {
	t.Helper()
	x, e := ideal.From(parts(texts...)...)
	if e != api.OK {
		t.Fatalf("From(%q): %d", texts, e)
	}
	return x
}

// tablesOfNoCall are tables that no call made.
func tablesOfNoCall() []*ideal.Table {
	var none *ideal.Table
	return []*ideal.Table{none, {}, new(ideal.Table)}
}

// knows tells where a table does not know just these texts, in this order.
func knows(t *testing.T, x *ideal.Table, texts ...string) {
	t.Helper()
	var got []string
	for _, b := range x.Plain() {
		got = append(got, string(b))
	}
	if !slices.Equal(got, texts) {
		t.Errorf("the table knows %q, want %q", got, texts)
	}
}

// sizes are numbers of leaves: small ones, and powers of two with those one below and one above.
func sizes() []int {
	var l []int
	for n := range 20 {
		l = append(l, n)
	}
	for n := 32; n <= 256; n *= 2 {
		l = append(l, n-1, n, n+1)
	}
	return l
}

// unlike are n leaves of which no two are the same; the first one has no bytes.
func unlike(n int) []string {
	var l []string
	for i := range n {
		l = append(l, strconv.Itoa(i))
	}
	if n > 0 {
		l[0] = ""
	}
	return l
}

// lists are lists of n leaves: unlike ones, ones that are alike, ones of no bytes, ones of which some are alike.
func lists(n int) [][]string {
	some := unlike(n)
	for i := range some {
		some[i] = some[i%3]
	}
	return [][]string{unlike(n), slices.Repeat([]string{"a"}, n), slices.Repeat([]string{""}, n), some}
}

// allocated is how many bytes of memory do takes.
func allocated(do func()) uint64 {
	var a, b runtime.MemStats
	runtime.ReadMemStats(&a)
	do()
	runtime.ReadMemStats(&b)
	return b.TotalAlloc - a.TotalAlloc
}
