package wal

import (
	"bulla/api"
	"bulla/disk"
)

// Open opens the log of a name.
func Open(d *disk.Disk, name string, most int) (*Log, api.Errno) {
	if e := ready(d); e != api.OK {
		return nil, e
	}
	if !isName(name) || most < api.MinSegment || most > api.MaxRoom {
		return nil, api.ErrArg
	}
	l := &Log{disk: d, name: name, most: most}
	if e := l.load(numbersOf(name, d.List())); e != api.OK {
		return nil, e
	}
	l.synced = l.Last()
	return l, api.OK
}

// ready is the error of a disk that answers nothing else: one that does has no file of the empty name.
func ready(d *disk.Disk) api.Errno {
	if _, e := d.Synced(""); e != api.ErrNone {
		return e
	}
	return api.OK
}

// load takes up the segments of these numbers. Nothing is written till all of them are known to be a log's.
func (l *Log) load(numbers []int64) api.Errno {
	if len(numbers) == 0 {
		return l.begin(1, 1)
	}
	for i, number := range numbers {
		b, e := l.disk.Get(fileName(l.name, number))
		if e != api.OK {
			return e
		}
		s := parse(number, b)
		torn := s.first == 0 || s.size < len(b)
		if torn && i < len(numbers)-1 || !l.fits(s) {
			return api.ErrBroken
		}
		l.segments = append(l.segments, s)
	}
	return l.mend()
}

// fits tells whether s goes on with the segments so far. One without a head says nothing against it; but if there are none ahead, then number 1 alone is known to begin with record 1.
func (l *Log) fits(s segment) bool {
	if len(l.segments) == 0 {
		return s.first > 0 || s.number == 1
	}
	ahead := l.last()
	return s.number == ahead.number+1 && (s.first == 0 || s.first == ahead.next())
}

// mend leaves the last file its head and its whole frames alone, and makes all sure: the files ahead too, as somebody else may have written them.
func (l *Log) mend() api.Errno {
	s := l.last()
	if s.first == 0 {
		if e := l.putHead(s); e != api.OK {
			return e
		}
	}
	if e := l.disk.Truncate(l.file(s), s.size); e != api.OK {
		return e
	}
	for i := range l.segments {
		if e := l.disk.Sync(l.file(&l.segments[i])); e != api.OK {
			return e
		}
	}
	return api.OK
}

// putHead gives the last segment a head anew. It is written over what stands there, which is cut off later: where the disk has no room for it, nothing has changed.
func (l *Log) putHead(s *segment) api.Errno {
	first := int64(1)
	if n := len(l.segments); n > 1 {
		first = l.segments[n-2].next()
	}
	head, e := headOf(first)
	if e != api.OK {
		return e
	}
	s.first, s.size = first, len(head)
	return l.disk.Write(l.file(s), 0, head)
}
