package message

import "bulla/api"

// outline is a message but for what stands in its lists, of which it tells how long they are: so it is compared whole, and empty and nil lists are the same.
type outline struct {
	kind, from, client             int
	view, seq, time, offset        int64
	digest                         api.Digest
	result                         api.Result
	topic                          string
	sign                           api.Sign
	batch, changes, entries, state int
	cert                           certOutline
	proof                          proofOutline
}

type certOutline struct {
	seq    int64
	digest api.Digest
	signs  int
}

type proofOutline struct {
	topic                 string
	offset                int64
	index, count          int
	record, headers, path int
	cert                  certOutline
}

func outlineOf(m api.Msg) outline {
	return outline{
		kind: m.Kind, from: m.From, client: m.Client,
		view: m.View, seq: m.Seq, time: m.Time, offset: m.Offset,
		digest: m.Digest, result: m.Result, topic: m.Topic, sign: m.Sign,
		batch: len(m.Batch), changes: len(m.Changes), entries: len(m.Entries), state: len(m.State),
		cert: outlineOfCert(m.Cert), proof: outlineOfProof(m.Proof),
	}
}

func outlineOfCert(c api.Cert) certOutline {
	return certOutline{c.Seq, c.Digest, len(c.Signs)}
}

func outlineOfProof(p api.Proof) proofOutline {
	return proofOutline{
		topic: p.Topic, offset: p.Offset, index: p.Index, count: p.Count,
		record: len(p.Record), headers: len(p.Headers), path: len(p.Path), cert: outlineOfCert(p.Cert),
	}
}

// own is a message with the fields of its Kind alone.
func own(m api.Msg) api.Msg {
	o := api.Msg{Kind: m.Kind, From: m.From}
	switch m.Kind {
	case api.MsRequest:
		o.From, o.Batch = 0, m.Batch
	case api.MsPrePrepare:
		o.View, o.Seq, o.Digest, o.Batch, o.Sign = m.View, m.Seq, m.Digest, m.Batch, m.Sign
	case api.MsPrepare, api.MsCommit:
		o.View, o.Seq, o.Digest, o.Sign = m.View, m.Seq, m.Digest, m.Sign
	case api.MsReply:
		o.View, o.Client, o.Time, o.Result, o.Sign = m.View, m.Client, m.Time, m.Result, m.Sign
	case api.MsCheckpoint:
		o.Seq, o.Digest, o.Sign = m.Seq, m.Digest, m.Sign
	case api.MsViewChange:
		o.View, o.Changes = m.View, m.Changes
	case api.MsNewView:
		o.View, o.Changes, o.Entries, o.Sign = m.View, m.Changes, m.Entries, m.Sign
	case api.MsFetch:
		o.Seq, o.Sign = m.Seq, m.Sign
	case api.MsSnap:
		o.Cert, o.State = m.Cert, m.State
	case api.MsAsk:
		o.From, o.Client, o.Topic, o.Offset = 0, m.Client, m.Topic, m.Offset
	case api.MsProof:
		o.Proof = m.Proof
	}
	return o
}
