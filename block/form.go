package block

import (
	"bytes"

	"bulla/api"
	"bulla/codec"
)

// mark begins each header's bytes: none of package merkle's, so that no header is taken for a part of a tree.
const mark byte = 3

// numbers is what a header has, in the order of its bytes.
func numbers(h api.Header) [5]int64 {
	return [5]int64{h.Seq, int64(h.Prev), int64(h.Batch), int64(h.Root), int64(h.State)}
}

// Check tells whether a header may be.
func Check(h api.Header) api.Errno {
	for _, n := range numbers(h) {
		if n < 0 || n > api.MaxNum {
			return api.ErrHeader
		}
	}
	return api.OK
}

// Bytes is a header's bytes.
func Bytes(h api.Header) ([]byte, api.Errno) {
	if e := Check(h); e != api.OK {
		return nil, e
	}
	b := []byte{mark}
	for _, n := range numbers(h) {
		b = codec.PutNum(b, uint64(n))
	}
	return b, api.OK
}

// Parse is the header of all of b.
func Parse(b []byte) (api.Header, api.Errno) {
	r := codec.Read(b)
	first := r.Take(1)
	var h api.Header
	h.Seq = int64(r.Num(api.MaxNum))
	h.Prev = takeDigest(r)
	h.Batch = takeDigest(r)
	h.Root = takeDigest(r)
	h.State = takeDigest(r)
	if r.Done() != api.OK || !bytes.Equal(first, []byte{mark}) {
		return api.Header{}, api.ErrHeader
	}
	return h, api.OK
}

func takeDigest(r *codec.Reader) api.Digest {
	return api.Digest(r.Num(api.MaxNum))
}
