package codec_test

import (
	"bytes"
	"encoding/binary"
	"math"
	"runtime"
	"strings"
	"testing"

	"bulla/codec"
)

// numbers are those around which a form gets longer, and some more.
func numbers() []uint64 {
	l := []uint64{0, 1, 2, 7, 100, 300, 1 << 53, math.MaxInt64, math.MaxUint64}
	for k := 0; k < 64; k++ {
		l = append(l, 1<<k-1, 1<<k, 1<<k+1)
	}
	return l
}

// allocated is how many bytes of memory do takes.
func allocated(do func()) uint64 {
	var a, b runtime.MemStats
	runtime.ReadMemStats(&a)
	do()
	runtime.ReadMemStats(&b)
	return b.TotalAlloc - a.TotalAlloc
}

// P1.1: the number's form.
func TestPutNum(t *testing.T) {
	nines := bytes.Repeat([]byte{128}, 9)
	for _, x := range []struct {
		n    uint64
		form []byte
	}{
		{0, []byte{0}},
		{1, []byte{1}},
		{127, []byte{127}},
		{128, []byte{128, 1}},
		{300, []byte{172, 2}},
		{1<<14 - 1, []byte{255, 127}},
		{1 << 14, []byte{128, 128, 1}},
		{1<<63 - 1, append(bytes.Repeat([]byte{255}, 8), 127)},
		{1 << 63, append(nines, 1)},
		{math.MaxUint64, append(bytes.Repeat([]byte{255}, 9), 1)},
	} {
		if b := codec.PutNum(nil, x.n); !bytes.Equal(b, x.form) {
			t.Errorf("PutNum(nil, %d) = %v, want %v", x.n, b, x.form)
		}
		if b := codec.PutNum([]byte{9, 128}, x.n); !bytes.Equal(b, append([]byte{9, 128}, x.form...)) {
			t.Errorf("PutNum(.., %d) = %v", x.n, b)
		}
	}
	for _, n := range numbers() { // the library's form of this name is the same one
		b, want := codec.PutNum(nil, n), binary.AppendUvarint(nil, n)
		if !bytes.Equal(b, want) || codec.NumLen(n) != len(want) {
			t.Errorf("PutNum(nil, %d) = %v, NumLen %d, want %v", n, b, codec.NumLen(n), want)
		}
	}
}

// P1.1: the byte string's form.
func TestPutBytes(t *testing.T) {
	long := bytes.Repeat([]byte{5}, 300)
	for _, x := range []struct{ b, x, want []byte }{
		{nil, nil, []byte{0}},
		{nil, []byte{}, []byte{0}},
		{[]byte{}, []byte{7, 8}, []byte{2, 7, 8}},
		{[]byte{1, 0}, []byte{0}, []byte{1, 0, 1, 0}},
		{[]byte{3}, long, append([]byte{3, 172, 2}, long...)},
	} {
		if b := codec.PutBytes(x.b, x.x); !bytes.Equal(b, x.want) {
			t.Errorf("PutBytes(%v, %v) = %v", x.b, x.x, b)
		}
	}
}

// P1.1: the list's form.
func TestPutList(t *testing.T) {
	many := make([][]byte, 200)
	for _, x := range []struct {
		b    []byte
		l    [][]byte
		want []byte
	}{
		{nil, nil, []byte{0}},
		{[]byte{4}, [][]byte{}, []byte{4, 0}},
		{nil, [][]byte{nil}, []byte{1, 0}},
		{nil, [][]byte{{7, 8}, {}, {9}}, []byte{3, 2, 7, 8, 0, 1, 9}},
		{[]byte{200}, many, append([]byte{200, 200, 1}, make([]byte, 200)...)},
	} {
		if b := codec.PutList(x.b, x.l...); !bytes.Equal(b, x.want) {
			t.Errorf("PutList(%v, %v) = %v", x.b, x.l, b)
		}
	}
}

// P1.1: neither b nor what stands behind it is written to, and the answer is nobody else's.
func TestPutKeepsOff(t *testing.T) {
	puts := map[string]func(b, x []byte) []byte{
		"PutNum":   func(b, x []byte) []byte { return codec.PutNum(b, 300) },
		"PutBytes": func(b, x []byte) []byte { return codec.PutBytes(b, x) },
		"PutList":  func(b, x []byte) []byte { return codec.PutList(b, x, nil, x) },
	}
	for name, put := range puts {
		for _, n := range []int{0, 4} {
			room := []byte(strings.Repeat("r", 40))
			x := []byte("xyz")
			got := put(room[:n], x)
			want := bytes.Clone(got)
			if string(room) != strings.Repeat("r", 40) || string(x) != "xyz" {
				t.Errorf("%s wrote to what was handed in: %q %q", name, room, x)
			}
			clear(room)
			clear(x)
			if !bytes.Equal(got, want) {
				t.Errorf("%s answered what its caller owns", name)
			}
			room2 := []byte(strings.Repeat("r", 40))
			got = put(room2[:n], room2[10:13]) // b and x in one memory
			if string(room2) != strings.Repeat("r", 40) {
				t.Errorf("%s wrote to what was handed in: %q", name, room2)
			}
			got = got[:cap(got)]
			for i := range got {
				got[i] = 1
			}
			if string(room2) != strings.Repeat("r", 40) {
				t.Errorf("%s answered what its caller owns", name)
			}
		}
	}
}

// P1.1, THE BOUND: b isn't copied anew for each part.
func TestPutListNearLinear(t *testing.T) {
	l := make([][]byte, 1<<12)
	for i := range l {
		l[i] = []byte{byte(i)}
	}
	b := make([]byte, 1<<14)
	var got []byte
	m := allocated(func() { got = codec.PutList(b, l...) })
	if len(got) != len(b)+2+2*len(l) || m > 1<<18 {
		t.Errorf("%d bytes, with %d bytes of memory", len(got), m)
	}
}
