package message

import (
	"bulla/api"
	"bulla/codec"
	"bulla/op"
	"bulla/request"
)

const mostErr = 1 << 16 // the greatest error of a result

// text is the bytes of a form, as far as it is written.
type text struct {
	bytes []byte
}

func (t *text) add(form []byte) {
	t.bytes = append(t.bytes, form...)
}

func (t *text) addNum(n int64) {
	t.add(codec.PutNum(nil, uint64(n)))
}

func (t *text) addBytes(b []byte) {
	t.addNum(int64(len(b)))
	t.add(b)
}

// writer writes what may be, part by part, up to the first part that may not be. Check and Bytes both write, so that there is one order of parts alone.
type writer struct {
	text
	err api.Errno
}

// takes tells whether a part is to be written: there is no error, nor does the part have one.
func (w *writer) takes(e api.Errno) bool {
	if w.err == api.OK {
		w.err = e
	}
	return w.err == api.OK
}

// must gives the writer an error, where something does not hold.
func (w *writer) must(holds bool) {
	if !holds {
		w.takes(api.ErrMessage)
	}
}

func (w *writer) number(n, least, most int64) {
	w.must(n >= least && n <= most)
	if w.takes(api.OK) {
		w.addNum(n)
	}
}

func (w *writer) broker(n int) {
	w.number(int64(n), 0, api.MaxBrokers-1)
}

func (w *writer) client(n int) {
	w.number(int64(n), 0, api.MaxClients-1)
}

func (w *writer) digest(d api.Digest) {
	w.number(int64(d), 0, api.MaxNum)
}

// given writes a digest that is not 0.
func (w *writer) given(d api.Digest) {
	w.number(int64(d), 1, api.MaxNum)
}

func (w *writer) name(s string) {
	if !op.Name(s) {
		w.takes(api.ErrName)
	}
	if w.takes(api.OK) {
		w.addBytes([]byte(s))
	}
}

func (w *writer) byteString(b []byte, most int) {
	w.must(len(b) <= most)
	if w.takes(api.OK) {
		w.addBytes(b)
	}
}

func (w *writer) sign(s api.Sign) {
	if w.takes(request.CheckSign(s)) {
		w.add(request.PutSign(nil, s))
	}
}

func (w *writer) batch(l api.Batch) {
	if w.takes(request.CheckBatch(l)) {
		w.add(request.PutBatch(nil, l))
	}
}

func (w *writer) result(x api.Result) {
	w.must(x.Err >= 0 && x.Err <= mostErr && x.Offset >= 0 && x.Offset <= api.MaxNum)
	if w.takes(api.OK) {
		w.add(op.PutResult(nil, x))
	}
}

// putList writes how many there are of l, and each by one.
func putList[T any](w *writer, l []T, most int64, one func(*writer, T)) {
	w.number(int64(len(l)), 0, most)
	for _, x := range l {
		if w.err != api.OK { // a list may be long beyond what may be
			return
		}
		one(w, x)
	}
}

func (w *writer) cert(c api.Cert) {
	w.number(c.Seq, 0, api.MaxNum)
	if c.Seq == 0 {
		w.number(int64(c.Digest), 0, 0)
		putList(w, c.Signs, 0, (*writer).sign)
		return
	}
	w.given(c.Digest)
	putList(w, c.Signs, api.MaxBrokers, (*writer).sign)
}

func (w *writer) prepared(p api.Prepared) {
	w.number(p.View, 0, api.MaxNum)
	w.number(p.Seq, 1, api.MaxNum)
	w.given(p.Digest)
	w.sign(p.First)
	putList(w, p.Signs, api.MaxBrokers, (*writer).sign)
	w.batch(p.Batch)
}

func (w *writer) change(c api.Change) {
	w.number(c.View, 1, api.MaxNum)
	w.broker(c.From)
	w.cert(c.Cert)
	putList(w, c.Above, api.Window, (*writer).prepared)
	w.sign(c.Sign)
}

func (w *writer) entry(e api.Entry) {
	w.number(e.View, 0, api.MaxNum)
	w.number(e.Seq, 1, api.MaxNum)
	w.batch(e.Batch)
	w.sign(e.Sign)
}

func (w *writer) header(h api.Header) {
	w.number(h.Seq, 1, api.MaxNum)
	w.digest(h.Prev)
	w.digest(h.Batch)
	w.digest(h.Root)
	w.digest(h.State)
}

func (w *writer) proof(p api.Proof) {
	w.name(p.Topic)
	w.number(p.Offset, 0, api.MaxNum)
	w.byteString(p.Record, api.MaxRecord)
	putList(w, p.Headers, api.MaxHeaders, (*writer).header)
	w.number(int64(p.Index), 0, api.MaxNum)
	w.number(int64(p.Count), 0, api.MaxLeaves)
	w.must(p.Index < p.Count)
	putList(w, p.Path, api.MaxPath, (*writer).digest)
	w.cert(p.Cert)
}

func (w *writer) message(m api.Msg) {
	w.number(int64(m.Kind), api.MsRequest, api.MsProof)
	w.parts(m)
	w.must(outlineOf(m) == outlineOf(own(m)))
}

// parts writes what stands behind a message's Kind.
func (w *writer) parts(m api.Msg) {
	switch m.Kind {
	case api.MsRequest:
		w.must(len(m.Batch) == 1)
		w.batch(m.Batch)
	case api.MsPrePrepare:
		w.vote(m)
		w.batch(m.Batch)
		w.sign(m.Sign)
	case api.MsPrepare, api.MsCommit:
		w.vote(m)
		w.sign(m.Sign)
	case api.MsReply:
		w.reply(m)
	case api.MsCheckpoint:
		w.broker(m.From)
		w.number(m.Seq, 1, api.MaxNum)
		w.given(m.Digest)
		w.sign(m.Sign)
	case api.MsViewChange:
		w.viewChange(m)
	case api.MsNewView:
		w.broker(m.From)
		w.number(m.View, 1, api.MaxNum)
		putList(w, m.Changes, api.MaxBrokers, (*writer).change)
		putList(w, m.Entries, api.Window, (*writer).entry)
		w.sign(m.Sign)
	case api.MsFetch:
		w.broker(m.From)
		w.number(m.Seq, 0, api.MaxNum)
		w.sign(m.Sign)
	case api.MsSnap:
		w.broker(m.From)
		w.cert(m.Cert)
		w.byteString(m.State, api.MaxBytes)
	case api.MsAsk:
		w.client(m.Client)
		w.name(m.Topic)
		w.number(m.Offset, 0, api.MaxNum)
	case api.MsProof:
		w.broker(m.From)
		w.proof(m.Proof)
	}
}

// vote writes what the three messages about a batch begin with.
func (w *writer) vote(m api.Msg) {
	w.broker(m.From)
	w.number(m.View, 0, api.MaxNum)
	w.number(m.Seq, 1, api.MaxNum)
	w.given(m.Digest)
}

func (w *writer) reply(m api.Msg) {
	w.broker(m.From)
	w.number(m.View, 0, api.MaxNum)
	w.client(m.Client)
	w.number(m.Time, 0, api.MaxNum)
	w.result(m.Result)
	w.sign(m.Sign)
}

// viewChange writes the one change alone, which tells From and View already.
func (w *writer) viewChange(m api.Msg) {
	if len(m.Changes) != 1 {
		w.must(false)
		return
	}
	c := m.Changes[0]
	w.change(c)
	w.must(m.From == c.From && m.View == c.View)
}
