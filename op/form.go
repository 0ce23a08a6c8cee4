package op

import (
	"slices"

	"bulla/api"
	"bulla/codec"
)

const (
	nameBytes = 4 * api.MaxName // of a name's form, at most: a rune's form has four bytes at most
	mostErr   = 1 << 16         // the greatest error of a result
)

// Put is b and an operation's bytes behind it; b alone, if the operation may not be.
func Put(b []byte, o api.Op) []byte {
	form, _ := Bytes(o) // nothing beside an error
	return slices.Concat(b, form)
}

// Bytes is an operation's bytes.
func Bytes(o api.Op) ([]byte, api.Errno) {
	if e := Check(o); e != api.OK {
		return nil, e
	}
	f, _ := fieldsOf(o.Kind)
	b := codec.PutNum(nil, uint64(o.Kind))
	if f.topic {
		b = codec.PutBytes(b, []byte(o.Topic))
	}
	if f.group {
		b = codec.PutBytes(b, []byte(o.Group))
	}
	if f.offset {
		b = codec.PutNum(b, uint64(o.Offset))
	}
	if f.records {
		b = codec.PutList(b, parts(o.Records)...)
	}
	return b, api.OK
}

func parts(l []api.Record) [][]byte {
	var p [][]byte
	for _, x := range l {
		p = append(p, x)
	}
	return p
}

// Take reads an operation; one that may not be is an error of the reader.
func Take(r *codec.Reader) api.Op {
	o := read(r)
	r.Fail(Check(o)) // an error that came ahead stays
	if r.Err() != api.OK {
		return api.Op{}
	}
	return o
}

// read reads an operation as far as the reader gets. It asks for no name, as how the bytes end comes ahead of what they say.
func read(r *codec.Reader) api.Op {
	o := api.Op{Kind: int(r.Num(api.OpTrim))}
	f, _ := fieldsOf(o.Kind)
	if f.topic {
		o.Topic = string(r.Bytes(nameBytes))
	}
	if f.group {
		o.Group = string(r.Bytes(nameBytes))
	}
	if f.offset {
		o.Offset = int64(r.Num(api.MaxNum))
	}
	if f.records {
		o.Records = records(r.List(api.MaxRecords, api.MaxRecord))
	}
	return o
}

func records(p [][]byte) []api.Record {
	var l []api.Record
	for _, x := range p {
		l = append(l, x)
	}
	return l
}

// Parse is the operation of all of b.
func Parse(b []byte) (api.Op, api.Errno) {
	r := codec.Read(b)
	o := Take(r)
	if e := r.Done(); e != api.OK {
		return api.Op{}, e
	}
	return o, api.OK
}

// PutResult is b and a result's bytes behind it.
func PutResult(b []byte, x api.Result) []byte {
	b = codec.PutNum(b, uint64(max(x.Err, 0)))
	return codec.PutNum(b, uint64(max(x.Offset, 0)))
}

// TakeResult reads a result.
func TakeResult(r *codec.Reader) api.Result {
	var x api.Result
	x.Err = api.Errno(r.Num(mostErr))
	x.Offset = int64(r.Num(api.MaxNum))
	if r.Err() != api.OK {
		return api.Result{}
	}
	return x
}
