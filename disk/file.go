package disk

import "bytes"

// file is bytes, of which the first ones are synced.
type file struct {
	bytes  []byte
	synced int
}

// put sets b from at on; at is within the file or at its end.
func (f *file) put(at int, b []byte) {
	over := copy(f.bytes[at:], b)
	f.bytes = append(f.bytes, b[over:]...)
	f.synced = min(f.synced, at)
}

func (f *file) sync() {
	f.synced = len(f.bytes)
}

// cut keeps the first n bytes, in memory of their own, so that the others are let go.
func (f *file) cut(n int) {
	f.bytes = bytes.Clone(f.bytes[:n])
	f.synced = min(f.synced, n)
}

// tear is what a crash does: some first ones of the bytes that are not synced stay.
func (f *file) tear(keep int) {
	loose := len(f.bytes) - f.synced
	f.cut(f.synced + keep%(loose+1))
	f.sync()
}

func (f *file) clone() *file {
	return &file{bytes: bytes.Clone(f.bytes), synced: f.synced}
}
