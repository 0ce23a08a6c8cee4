package request

import (
	"slices"

	"bulla/api"
	"bulla/codec"
	"bulla/op"
)

const requestBytes = 1 << 10 // of a request within a batch, at most

// Bytes is a request's bytes.
func Bytes(x api.Request) ([]byte, api.Errno) {
	if e := Check(x); e != api.OK {
		return nil, e
	}
	b := codec.PutNum(nil, uint64(x.Client))
	b = codec.PutNum(b, uint64(x.Time))
	return op.Put(b, x.Op), api.OK
}

// Parse is the request of all of b.
func Parse(b []byte) (api.Request, api.Errno) {
	r := codec.Read(b)
	var x api.Request
	x.Client = int(r.Num(api.MaxClients - 1))
	x.Time = int64(r.Num(api.MaxNum))
	x.Op = op.Take(r)
	if e := r.Done(); e != api.OK {
		return api.Request{}, e
	}
	if x.Time == 0 { // behind the reader's errors, all of which come first
		return api.Request{}, api.ErrRequest
	}
	return x, api.OK
}

// sign and list are a signature and a batch that may be, as they are put.
type sign api.Sign

type list api.Batch

func (s sign) form() []byte {
	return codec.PutNum(codec.PutNum(nil, uint64(s.Key)), uint64(s.Digest))
}

func (l list) form() []byte {
	b := codec.PutNum(nil, uint64(len(l)))
	for _, s := range l {
		x, _ := Bytes(s.Request) // no error, as all of the list may be
		b = PutSign(codec.PutBytes(b, x), s.Sign)
	}
	return b
}

// put is b and a form behind it, which is not asked for where e says that it may not be: b alone then.
func put(b []byte, e api.Errno, form func() []byte) []byte {
	if e != api.OK {
		return slices.Clone(b)
	}
	return slices.Concat(b, form())
}

// PutSign is b and a signature behind it; b alone, if the signature may not be.
func PutSign(b []byte, s api.Sign) []byte {
	return put(b, CheckSign(s), sign(s).form)
}

// PutBatch is b and a batch behind it; b alone, if the batch may not be.
func PutBatch(b []byte, l api.Batch) []byte {
	return put(b, CheckBatch(l), list(l).form)
}

// TakeSign reads a signature; one that may not be is an error of the reader.
func TakeSign(r *codec.Reader) api.Sign {
	var s api.Sign
	s.Key = int(r.Num(api.MaxKeys - 1))
	s.Digest = api.Digest(r.Num(api.MaxNum))
	if s.Digest == 0 {
		r.Fail(api.ErrSign) // an error that came ahead stays
	}
	if r.Err() != api.OK {
		return api.Sign{}
	}
	return s
}

// TakeBatch reads a batch; one that may not be is an error of the reader.
func TakeBatch(r *codec.Reader) api.Batch {
	var l api.Batch
	for range r.Num(api.MaxBatch) {
		l = append(l, takeSigned(r))
	}
	r.Fail(CheckBatch(l))
	if r.Err() != api.OK {
		return nil
	}
	return l
}

func takeSigned(r *codec.Reader) api.Signed {
	x, e := Parse(r.Bytes(requestBytes))
	r.Fail(e)
	return api.Signed{Request: x, Sign: TakeSign(r)}
}
