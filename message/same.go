package message

import (
	"bytes"
	"slices"
	"strings"

	"bulla/api"
	"bulla/request"
)

// Same tells whether two messages are the same.
func Same(a, b api.Msg) bool {
	return outlineOf(a) == outlineOf(b) &&
		request.Same(a.Batch, b.Batch) &&
		sameCert(a.Cert, b.Cert) &&
		slices.EqualFunc(a.Changes, b.Changes, sameChange) &&
		slices.EqualFunc(a.Entries, b.Entries, sameEntry) &&
		bytes.Equal(a.State, b.State) &&
		sameProof(a.Proof, b.Proof)
}

func sameCert(a, b api.Cert) bool {
	return outlineOfCert(a) == outlineOfCert(b) && slices.Equal(a.Signs, b.Signs)
}

func sameChange(a, b api.Change) bool {
	return a.View == b.View && a.From == b.From && a.Sign == b.Sign && sameCert(a.Cert, b.Cert) &&
		slices.EqualFunc(a.Above, b.Above, samePrepared)
}

func samePrepared(a, b api.Prepared) bool {
	return a.View == b.View && a.Seq == b.Seq && a.Digest == b.Digest && a.First == b.First &&
		slices.Equal(a.Signs, b.Signs) && request.Same(a.Batch, b.Batch)
}

func sameEntry(a, b api.Entry) bool {
	return a.View == b.View && a.Seq == b.Seq && a.Sign == b.Sign && request.Same(a.Batch, b.Batch)
}

func sameProof(a, b api.Proof) bool {
	return outlineOfProof(a) == outlineOfProof(b) && bytes.Equal(a.Record, b.Record) &&
		slices.Equal(a.Headers, b.Headers) && slices.Equal(a.Path, b.Path) && sameCert(a.Cert, b.Cert)
}

// Clone is the same message in memory of its own.
func Clone(m api.Msg) api.Msg {
	m.Batch = request.Clone(m.Batch)
	m.Cert = cloneCert(m.Cert)
	m.Changes = cloneEach(m.Changes, cloneChange)
	m.Entries = cloneEach(m.Entries, cloneEntry)
	m.State = bytes.Clone(m.State)
	m.Topic = strings.Clone(m.Topic) // else a short name could hold on to the long text that it was cut from
	m.Proof = cloneProof(m.Proof)
	return m
}

func cloneEach[T any](l []T, clone func(T) T) []T {
	l = slices.Clone(l)
	for i, x := range l {
		l[i] = clone(x)
	}
	return l
}

func cloneCert(c api.Cert) api.Cert {
	c.Signs = slices.Clone(c.Signs)
	return c
}

func cloneChange(c api.Change) api.Change {
	c.Cert = cloneCert(c.Cert)
	c.Above = cloneEach(c.Above, clonePrepared)
	return c
}

func clonePrepared(p api.Prepared) api.Prepared {
	p.Signs = slices.Clone(p.Signs)
	p.Batch = request.Clone(p.Batch)
	return p
}

func cloneEntry(e api.Entry) api.Entry {
	e.Batch = request.Clone(e.Batch)
	return e
}

func cloneProof(p api.Proof) api.Proof {
	p.Topic = strings.Clone(p.Topic)
	p.Record = bytes.Clone(p.Record)
	p.Headers = slices.Clone(p.Headers)
	p.Path = slices.Clone(p.Path)
	p.Cert = cloneCert(p.Cert)
	return p
}
