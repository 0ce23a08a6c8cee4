package wal

import (
	"bytes"
	"iter"

	"bulla/api"
	"bulla/codec"
)

const (
	divisor  = 0xEDB88320 // of the remainder, its lowest bit the highest power
	sumBytes = 4
)

// Sum is the CRC-32 of some bytes.
func Sum(b []byte) uint32 {
	r := ^uint32(0)
	for _, c := range b {
		r ^= uint32(c) // all bits of c at once: each shift brings the next one down to the lowest place
		for range 8 {
			r = r>>1 ^ divisor&-(r&1)
		}
	}
	return ^r
}

// sumForm is the sum of some bytes as it stands behind them.
func sumForm(b []byte) []byte {
	s := Sum(b)
	return []byte{byte(s), byte(s >> 8), byte(s >> 16), byte(s >> 24)}
}

// Frame is a record as it stands in a file.
func Frame(b []byte) ([]byte, api.Errno) {
	if len(b) > api.MaxEntry {
		return nil, api.ErrLong
	}
	f := codec.PutBytes(nil, b)
	return append(f, sumForm(f)...), api.OK
}

// Unframe is the record of the frame with which b begins, and how many bytes the frame has.
func Unframe(b []byte) ([]byte, int, bool) {
	begin, end, is := bounds(b)
	if !is || !bytes.Equal(sumForm(b[:end]), b[end:end+sumBytes]) {
		return nil, 0, false
	}
	return bytes.Clone(b[begin:end]), end + sumBytes, true
}

// bounds is where the record begins and ends, if b is as long as its first bytes promise. A reader copies what it is given, so it is given no more than a length has: frames that stand one behind the other are gone through in linear time.
func bounds(b []byte) (int, int, bool) {
	r := codec.Read(b[:min(len(b), codec.NumLen(api.MaxEntry))])
	n := r.Num(api.MaxEntry)
	begin := codec.NumLen(n)
	end := begin + int(n)
	return begin, end, r.Err() == api.OK && len(b) >= end+sumBytes
}

// frames goes through the whole frames with which b begins: where each one ends, and its record.
func frames(b []byte) iter.Seq2[int, []byte] {
	return func(yield func(int, []byte) bool) {
		end := 0
		for {
			record, n, is := Unframe(b[end:])
			end += n
			if !is || !yield(end, record) {
				return
			}
		}
	}
}
