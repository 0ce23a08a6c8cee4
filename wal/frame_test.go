package wal_test

import (
	"bytes"
	"encoding/binary"
	"hash/crc32"
	"math/rand"
	"strings"
	"testing"

	"bulla/api"
	"bulla/wal"
)

// P4.1: Sum.
func TestSum(t *testing.T) {
	for _, x := range []struct {
		b string
		s uint32
	}{
		{"", 0},
		{"\x00", 0xD202EF8D},
		{"\xff\xff\xff\xff", 0xFFFFFFFF},
		{"a", 0xE8B7BE43},
		{"123456789", 0xCBF43926},
	} {
		if s := wal.Sum([]byte(x.b)); s != x.s {
			t.Errorf("Sum(%q) = %x, want %x", x.b, s, x.s)
		}
	}
	if wal.Sum(nil) != 0 {
		t.Error("Sum of nil")
	}
	dice := rand.New(rand.NewSource(1))
	for n := range 300 {
		b := make([]byte, n)
		dice.Read(b)
		first := bytes.Clone(b)
		if s := wal.Sum(b); s != crc32.ChecksumIEEE(b) || !bytes.Equal(b, first) {
			t.Errorf("Sum of %x = %x, want %x", b, s, crc32.ChecksumIEEE(b))
		}
	}
}

// P4.1: the sum by its words, a bit behind the other.
func TestSumByBits(t *testing.T) {
	for n := range 70 {
		b := []byte(strings.Repeat("\x53\xa0\xff\x00\x81", n))
		r := uint32(0xFFFFFFFF)
		for i := range len(b) * 8 {
			differs := uint32(b[i/8])>>(i%8)&1 != r&1
			r >>= 1
			if differs {
				r ^= 0xEDB88320
			}
		}
		if s := wal.Sum(b); s != r^0xFFFFFFFF {
			t.Errorf("Sum of %d bytes = %x, want %x", len(b), s, r^0xFFFFFFFF)
		}
	}
}

// P4.1: Frame, and the document's example.
func TestFrame(t *testing.T) {
	for _, record := range []string{"", "\x00", "\x07\x08\x09", "ab", strings.Repeat("x", 127), strings.Repeat("x", 128), strings.Repeat("y", 16383), strings.Repeat("z", 16384), strings.Repeat("v", api.MaxEntry)} {
		if f, e := wal.Frame([]byte(record)); string(f) != frame(record) || e != api.OK {
			t.Errorf("the frame of %d bytes is of %d bytes, %d", len(record), len(f), e)
		}
	}
	f, e := wal.Frame([]byte{7, 8, 9})
	if want := binary.LittleEndian.AppendUint32([]byte{3, 7, 8, 9}, wal.Sum([]byte{3, 7, 8, 9})); !bytes.Equal(f, want) || e != api.OK {
		t.Errorf("Frame of 7 8 9 = %v, %d, want %v", f, e, want)
	}
	if f, e := wal.Frame(nil); string(f) != frame("") || e != api.OK {
		t.Errorf("Frame(nil) = %v, %d", f, e)
	}
	for _, n := range []int{api.MaxEntry + 1, 2 * api.MaxEntry, 1 << 21} {
		if f, e := wal.Frame(make([]byte, n)); f != nil || e != api.ErrLong {
			t.Errorf("Frame of %d bytes: %d bytes, %d", n, len(f), e)
		}
	}
}

// P4.7: Unframe of Frame is the record, whatever stands behind.
func TestThereAndBack(t *testing.T) {
	dice := rand.New(rand.NewSource(2))
	sizes := []int{0, 1, 2, 3, 4, 5, 126, 127, 128, 129, 1000, 16383, 16384, 16385, api.MaxEntry - 1, api.MaxEntry}
	for _, n := range sizes {
		record := make([]byte, n)
		dice.Read(record)
		f, e := wal.Frame(record)
		answers(t, "Frame", e, api.OK)
		for _, behind := range []string{"", "\x00", "\xff", "\x80\x80\x80", string(f), strings.Repeat("more", 9)} {
			b := append(bytes.Clone(f), behind...)
			if r, k, is := wal.Unframe(b); !bytes.Equal(r, record) || k != len(f) || !is {
				t.Errorf("Unframe of %d bytes and %q = %d bytes, %d, %v", n, behind, len(r), k, is)
			}
		}
	}
}

// P4.1: what begins with no frame.
func TestUnframeNone(t *testing.T) {
	summed := func(b string) string {
		return string(binary.LittleEndian.AppendUint32([]byte(b), crc32.ChecksumIEEE([]byte(b))))
	}
	long := string(binary.AppendUvarint(nil, api.MaxEntry+1)) + strings.Repeat("x", api.MaxEntry+1)
	longer := string(binary.AppendUvarint(nil, 1<<21)) + strings.Repeat("x", 1<<21)
	for what, b := range map[string]string{
		"nothing":                      "",
		"a sum alone":                  summed(""),
		"a length alone":               "\x00",
		"an empty record's cut sum":    frame("")[:4],
		"a sum of the record alone":    "\x02ab" + summed("ab")[2:],
		"a sum, highest first":         "\x02ab" + string(binary.BigEndian.AppendUint32(nil, crc32.ChecksumIEEE([]byte("\x02ab")))),
		"a record that is too long":    summed(long),
		"one of a length of four":      summed(longer),
		"a length of two bytes for 0":  summed("\x80\x00"),
		"a length of two bytes for 2":  summed("\x82\x00ab"),
		"a length of three for 2":      summed("\x82\x80\x00ab"),
		"a length that does not end":   summed("\x80\x80\x80"),
		"a length of ten bytes":        summed("\xff\xff\xff\xff\xff\xff\xff\xff\xff\x01"),
		"a length of eleven":           summed("\x80\x80\x80\x80\x80\x80\x80\x80\x80\x80\x01"),
		"a frame that is not in front": "x" + frame("ab"),
		"another length":               "\x01" + frame("ab")[1:],
		"zeros":                        strings.Repeat("\x00", 40),
	} {
		if r, n, is := wal.Unframe([]byte(b)); r != nil || n != 0 || is {
			t.Errorf("Unframe of %s = %d bytes, %d, %v", what, len(r), n, is)
		}
	}
	for c := 1; c < 256; c++ {
		if r, n, is := wal.Unframe([]byte(summed(string([]byte{byte(c)})))); r != nil || n != 0 || is {
			t.Errorf("Unframe of %d and its sum = %q, %d, %v", c, r, n, is)
		}
	}
	for _, record := range []string{"", "a", "12345678", strings.Repeat("x", 200)} {
		f := frame(record)
		for n := range len(f) {
			if r, k, is := wal.Unframe([]byte(f[:n])); r != nil || k != 0 || is {
				t.Errorf("Unframe of %d of %d bytes = %q, %d, %v", n, len(f), r, k, is)
			}
		}
	}
}

// P4.1: each bit of a frame counts.
func TestUnframeTurnedBit(t *testing.T) {
	for _, record := range []string{"", "a", "a few bytes", strings.Repeat("\x00", 150)} {
		for i := range len(frame(record)) * 8 {
			b := []byte(frame(record))
			b[i/8] ^= 1 << (i % 8)
			if r, n, is := wal.Unframe(b); r != nil || n != 0 || is {
				t.Errorf("%d bytes, bit %d turned: %q, %d, %v", len(record), i, r, n, is)
			}
		}
	}
}

// R3: what Frame and Unframe were handed and what they answer are nobody else's.
func TestFrameKeepsOff(t *testing.T) {
	b := []byte("record and more")
	f, _ := wal.Frame(b[:6])
	clear(b[:6])
	if string(f) != frame("record") || string(b[6:]) != " and more" {
		t.Errorf("Frame writes to what it was handed, or hands it out: %q, %q", f, b)
	}
	f = append(f, "behind"...)
	first := bytes.Clone(f)
	r, n, _ := wal.Unframe(f)
	clear(r)
	_ = append(r, "123456789"...)
	if !bytes.Equal(f, first) || n != len(first)-6 {
		t.Error("Unframe hands out what it was handed")
	}
	r, _, _ = wal.Unframe(f)
	clear(f)
	if string(r) != "record" {
		t.Errorf("a record changes with what it was read from: %q", r)
	}
}

// THE BOUND: a frame takes no memory for what stands behind it, nor for what its length promises.
func TestUnframeNearLinear(t *testing.T) {
	ahead := append([]byte(frame("ab")), make([]byte, 1<<20)...)
	promised := append(binary.AppendUvarint(nil, api.MaxEntry), "ab"...)
	m := allocated(func() {
		for range 100 {
			wal.Unframe(ahead)
			wal.Unframe(promised)
		}
	})
	if m > 1<<18 {
		t.Errorf("%d bytes of memory", m)
	}
}
