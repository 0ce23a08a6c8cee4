package topics

import (
	"bulla/api"
	"bulla/codec"
	"bulla/ideal"
	"bulla/op"
)

const nameBytes = 4 * api.MaxName // of a name, at most: a rune's form has four bytes at most

// putNum and putBytes write into b's own room: codec would copy b each time, which would not stay near-linear.
func putNum(b []byte, n int64) []byte {
	return append(b, codec.PutNum(nil, uint64(n))...)
}

func putBytes(b, x []byte) []byte {
	return append(b, codec.PutBytes(nil, x)...)
}

// Bytes is all that the topics hold.
func (t *Topics) Bytes() []byte {
	if !t.made() {
		return nil
	}
	b := putNum(nil, int64(len(t.topics)))
	for _, name := range t.Names() {
		b = putBytes(b, []byte(name))
		b = append(b, t.topics[name].bytes()...)
	}
	for _, last := range t.clients {
		b = putNum(b, last.time)
		b = append(b, op.PutResult(nil, last.result)...)
	}
	return b
}

func (x *topic) bytes() []byte {
	b := putNum(nil, x.base)
	b = putNum(b, int64(len(x.records)))
	for _, record := range x.all() {
		b = putBytes(b, record)
	}
	b = putNum(b, int64(len(x.groups)))
	for _, name := range x.groupNames() {
		b = putBytes(b, []byte(name))
		b = putNum(b, x.groups[name])
	}
	return b
}

// Parse is the topics whose Bytes are b.
func Parse(b []byte) (*Topics, api.Errno) {
	r := codec.Read(b)
	t := take(r)
	if r.Done() != api.OK {
		return nil, api.ErrTopics
	}
	return t, api.OK
}

// take reads topics; such as may not be are an error of the reader.
func take(r *codec.Reader) *Topics {
	t := New()
	name := ""
	for range r.Num(api.MaxTopics) {
		name = takeName(r, name)
		t.topics[name] = takeTopic(r)
	}
	for i := range t.clients {
		t.clients[i] = takeAnswered(r)
	}
	return t
}

// takeName reads a name that is above the one ahead of it.
func takeName(r *codec.Reader, ahead string) string {
	name := string(r.Bytes(nameBytes))
	if !op.Name(name) || name <= ahead {
		r.Fail(api.ErrTopics)
	}
	return name
}

func takeTopic(r *codec.Reader) *topic {
	x := newTopic()
	x.base = int64(r.Num(api.MaxNum))
	for range r.Num(api.MaxKept) {
		x.records = append(x.records, r.Bytes(api.MaxRecord))
	}
	if x.next() > api.MaxNum {
		r.Fail(api.ErrTopics)
	}
	name := ""
	for range r.Num(api.MaxGroups) {
		name = takeName(r, name)
		x.groups[name] = int64(r.Num(uint64(x.next())))
	}
	return x
}

func takeAnswered(r *codec.Reader) answered {
	var last answered
	last.time = int64(r.Num(api.MaxNum))
	last.result = op.TakeResult(r)
	if !last.mayBe() {
		r.Fail(api.ErrTopics)
	}
	return last
}

func (a answered) mayBe() bool {
	if a.result == (api.Result{}) {
		return true
	}
	return a.time > 0 && isAnswer(a.result.Err) && (a.result.Err == api.OK || a.result.Offset == 0)
}

// isAnswer tells whether a request that is done may come to e.
func isAnswer(e api.Errno) bool {
	switch e {
	case api.OK, api.ErrNone, api.ErrTwice, api.ErrFull, api.ErrQuota, api.ErrOffset, api.ErrOp, api.ErrName, api.ErrRecord:
		return true
	}
	return false
}

// Digest is the number of Bytes in a table.
func (t *Topics) Digest(x *ideal.Table) api.Digest {
	if !t.made() { // else the table would learn of no bytes
		return 0
	}
	return x.Sum(t.Bytes())
}

// PlacedBytes is the bytes of a record and its place.
func PlacedBytes(p api.Placed) []byte {
	b := putBytes(nil, []byte(p.Topic))
	b = putNum(b, max(p.Offset, 0))
	return putBytes(b, p.Record)
}
