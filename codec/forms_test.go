package codec_test

import (
	"bytes"
	"math"
	"math/rand"
	"testing"

	"bulla/api"
	"bulla/codec"
)

// P1.4: numbers, strings and lists are read as they were put, one behind the other.
func TestThereAndBack(t *testing.T) {
	for _, n := range numbers() {
		r := codec.Read(codec.PutNum([]byte{1}, n))
		if r.Num(1) != 1 || r.Num(n) != n || r.Done() != api.OK {
			t.Errorf("%d: %d", n, r.Err())
		}
	}
	dice := rand.New(rand.NewSource(1))
	for range 2000 {
		x := some(dice, 300)
		l := make([][]byte, dice.Intn(200))
		for i := range l {
			l[i] = some(dice, 5)
		}
		n := dice.Uint64() >> dice.Intn(64)
		r := codec.Read(codec.PutNum(codec.PutList(codec.PutBytes(nil, x), l...), n))
		if g := r.Bytes(len(x)); !bytes.Equal(g, x) {
			t.Fatalf("%v was read as %v", x, g)
		}
		g := r.List(len(l), 4)
		if len(g) != len(l) {
			t.Fatalf("%v was read as %v", l, g)
		}
		for i := range l {
			if !bytes.Equal(l[i], g[i]) {
				t.Fatalf("%v was read as %v", l, g)
			}
		}
		if r.Num(n) != n || r.Done() != api.OK {
			t.Fatal(n, r.Done())
		}
	}
}

func some(dice *rand.Rand, below int) []byte {
	b := make([]byte, dice.Intn(below))
	dice.Read(b)
	return b
}

// texts are all byte strings of up to most bytes from some bytes.
func texts(most int, from ...byte) [][]byte {
	all := [][]byte{nil}
	begin := 0
	for range most {
		end := len(all)
		for _, b := range all[begin:end] {
			for _, c := range from {
				all = append(all, append(bytes.Clone(b), c))
			}
		}
		begin = end
	}
	return all
}

// samples are byte strings that have forms, and ones that have none.
func samples() [][]byte {
	all := make([]byte, 256)
	for i := range all {
		all[i] = byte(i)
	}
	l := append(texts(2, all...), texts(5, 0, 1, 2, 3, 127, 128, 129, 255)...)
	for _, c := range []byte{128, 129, 255} {
		for n := range 12 {
			for _, x := range texts(2, 0, 1, 2, 127, 128, 255) {
				l = append(l, high(n, c, x...))
			}
		}
	}
	return l
}

// P1.5: what is read has one form, the one that was read.
func TestOneForm(t *testing.T) {
	const most = math.MaxInt
	for _, b := range samples() {
		r := codec.Read(b)
		n := r.Num(math.MaxUint64)
		if read := b[:len(b)-r.Left()]; r.Err() == api.OK && !bytes.Equal(codec.PutNum(nil, n), read) {
			t.Errorf("%v was read as %d", read, n)
		}
		r = codec.Read(b)
		x := r.Bytes(most)
		if read := b[:len(b)-r.Left()]; r.Err() == api.OK && !bytes.Equal(codec.PutBytes(nil, x), read) {
			t.Errorf("%v was read as %v", read, x)
		}
		r = codec.Read(b)
		l := r.List(most, most)
		if read := b[:len(b)-r.Left()]; r.Err() == api.OK && !bytes.Equal(codec.PutList(nil, l...), read) {
			t.Errorf("%v was read as %v", read, l)
		}
	}
}

// P1.5: no form begins another one's.
func TestNoFormBeginsAnother(t *testing.T) {
	nums := map[string]bool{}
	for _, n := range numbers() {
		nums[string(codec.PutNum(nil, n))] = true
	}
	for n := range uint64(500) {
		nums[string(codec.PutNum(nil, n))] = true
	}
	strs, lists := map[string]bool{}, map[string]bool{}
	parts := texts(2, 0, 1, 2, 128)
	for _, x := range parts {
		strs[string(codec.PutBytes(nil, x))] = true
		lists[string(codec.PutList(nil, x))] = true
		for _, y := range parts {
			lists[string(codec.PutList(nil, x, y))] = true
		}
	}
	lists[string(codec.PutList(nil))] = true
	if len(strs) != len(parts) || len(lists) != 1+len(parts)+len(parts)*len(parts) {
		t.Error("two things have one form")
	}
	for _, forms := range []map[string]bool{nums, strs, lists} {
		for f := range forms {
			for k := range f {
				if forms[f[:k]] {
					t.Errorf("%q begins %q", f[:k], f)
				}
			}
		}
	}
}
