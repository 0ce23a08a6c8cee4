package message

import (
	"bulla/api"
	"bulla/codec"
	"bulla/op"
	"bulla/request"
)

const nameBytes = 4 * api.MaxName // of a name's form, at most: a rune's form has four bytes at most

// reader reads parts of messages; the reader of codec in it keeps the first error.
type reader struct {
	*codec.Reader
}

// must gives the reader an error, where something does not hold. (An error that came ahead stays.)
func (r reader) must(holds bool) {
	if !holds {
		r.Fail(api.ErrMessage)
	}
}

// number reads a number; one above most is an error of the reader's own.
func (r reader) number(least, most uint64) int64 {
	n := r.Num(most)
	r.must(n >= least)
	return int64(n)
}

// limited reads a number of any greatness; one above most is one that may not be.
func (r reader) limited(least uint64, most int64) int64 {
	n := r.number(least, api.MaxNum)
	r.must(n <= most)
	return n
}

func (r reader) broker() int {
	return int(r.number(0, api.MaxBrokers-1))
}

func (r reader) client() int {
	return int(r.number(0, api.MaxClients-1))
}

func (r reader) digest() api.Digest {
	return api.Digest(r.number(0, api.MaxNum))
}

// given reads a digest that is not 0.
func (r reader) given() api.Digest {
	return api.Digest(r.number(1, api.MaxNum))
}

func (r reader) name() string {
	s := string(r.Bytes(nameBytes))
	if !op.Name(s) {
		r.Fail(api.ErrName)
	}
	return s
}

func (r reader) sign() api.Sign {
	return request.TakeSign(r.Reader)
}

func (r reader) batch() api.Batch {
	return request.TakeBatch(r.Reader)
}

// takeList reads how many there are, most at most, and each by one. It ends at the first error.
func takeList[T any](r reader, most int64, one func(reader) T) []T {
	var l []T
	for n := r.limited(0, most); n > 0 && r.Err() == api.OK; n-- {
		l = append(l, one(r))
	}
	return l
}

func (r reader) cert() api.Cert {
	c := api.Cert{Seq: r.number(0, api.MaxNum), Digest: r.digest()}
	r.must((c.Seq == 0) == (c.Digest == 0))
	most := int64(api.MaxBrokers)
	if c.Seq == 0 {
		most = 0
	}
	c.Signs = takeList(r, most, reader.sign)
	return c
}

func (r reader) prepared() api.Prepared {
	return api.Prepared{
		View:   r.number(0, api.MaxNum),
		Seq:    r.number(1, api.MaxNum),
		Digest: r.given(),
		First:  r.sign(),
		Signs:  takeList(r, api.MaxBrokers, reader.sign),
		Batch:  r.batch(),
	}
}

func (r reader) change() api.Change {
	return api.Change{
		View:  r.number(1, api.MaxNum),
		From:  r.broker(),
		Cert:  r.cert(),
		Above: takeList(r, api.Window, reader.prepared),
		Sign:  r.sign(),
	}
}

func (r reader) entry() api.Entry {
	return api.Entry{
		View:  r.number(0, api.MaxNum),
		Seq:   r.number(1, api.MaxNum),
		Batch: r.batch(),
		Sign:  r.sign(),
	}
}

func (r reader) header() api.Header {
	return api.Header{
		Seq:   r.number(1, api.MaxNum),
		Prev:  r.digest(),
		Batch: r.digest(),
		Root:  r.digest(),
		State: r.digest(),
	}
}

func (r reader) proof() api.Proof {
	p := api.Proof{
		Topic:   r.name(),
		Offset:  r.number(0, api.MaxNum),
		Record:  r.Bytes(api.MaxRecord),
		Headers: takeList(r, api.MaxHeaders, reader.header),
	}
	index, count := r.number(0, api.MaxNum), r.limited(0, api.MaxLeaves)
	r.must(index < count)
	p.Index, p.Count = int(index), int(count)
	p.Path = takeList(r, api.MaxPath, reader.digest)
	p.Cert = r.cert()
	return p
}

func (r reader) message() api.Msg {
	m := api.Msg{Kind: int(r.limited(api.MsRequest, api.MsProof))}
	switch m.Kind {
	case api.MsRequest:
		m.Batch = r.batch()
		r.must(len(m.Batch) == 1)
	case api.MsPrePrepare:
		r.vote(&m)
		m.Batch, m.Sign = r.batch(), r.sign()
	case api.MsPrepare, api.MsCommit:
		r.vote(&m)
		m.Sign = r.sign()
	case api.MsReply:
		r.reply(&m)
	case api.MsCheckpoint:
		m.From, m.Seq, m.Digest, m.Sign = r.broker(), r.number(1, api.MaxNum), r.given(), r.sign()
	case api.MsViewChange:
		c := r.change()
		m.From, m.View, m.Changes = c.From, c.View, []api.Change{c}
	case api.MsNewView:
		m.From, m.View = r.broker(), r.number(1, api.MaxNum)
		m.Changes = takeList(r, api.MaxBrokers, reader.change)
		m.Entries = takeList(r, api.Window, reader.entry)
		m.Sign = r.sign()
	case api.MsFetch:
		m.From, m.Seq, m.Sign = r.broker(), r.number(0, api.MaxNum), r.sign()
	case api.MsSnap:
		m.From, m.Cert, m.State = r.broker(), r.cert(), r.Bytes(api.MaxBytes)
	case api.MsAsk:
		m.Client, m.Topic, m.Offset = r.client(), r.name(), r.number(0, api.MaxNum)
	case api.MsProof:
		m.From, m.Proof = r.broker(), r.proof()
	}
	return m
}

// vote reads what the three messages about a batch begin with.
func (r reader) vote(m *api.Msg) {
	m.From, m.View, m.Seq, m.Digest = r.broker(), r.number(0, api.MaxNum), r.number(1, api.MaxNum), r.given()
}

func (r reader) reply(m *api.Msg) {
	m.From, m.View, m.Client, m.Time = r.broker(), r.number(0, api.MaxNum), r.client(), r.number(0, api.MaxNum)
	m.Result, m.Sign = op.TakeResult(r.Reader), r.sign()
}
