package wal_test

import (
	"encoding/binary"
	"hash/crc32"
	"reflect"
	"runtime"
	"slices"
	"strconv"
	"strings"
	"testing"

	"bulla/api"
	"bulla/disk"
	"bulla/wal"
)

// frame is a record's frame, told without the program's help.
func frame(record string) string {
	b := append(binary.AppendUvarint(nil, uint64(len(record))), record...)
	return string(binary.LittleEndian.AppendUint32(b, crc32.ChecksumIEEE(b)))
}

// head is the frame of a number.
func head(first uint64) string {
	return frame(string(binary.AppendUvarint(nil, first)))
}

// file is what a segment has: its head, and its records' frames.
func file(first uint64, records ...string) string {
	text := head(first)
	for _, r := range records {
		text += frame(r)
	}
	return text
}

// files are a disk's, by names.
type files map[string]string

// made is a disk of these files, nothing of them synced.
func made(t *testing.T, room int, with files) *disk.Disk {
	t.Helper()
	d, e := disk.New(room)
	answers(t, "disk.New", e, api.OK)
	for name, text := range with {
		answers(t, "Create "+name, d.Create(name), api.OK)
		answers(t, "Append "+name, d.Append(name, []byte(text)), api.OK)
	}
	return d
}

// opened is the log of the name log on a disk.
func opened(t *testing.T, d *disk.Disk, most int) *wal.Log {
	t.Helper()
	l, e := wal.Open(d, "log", most)
	if e != api.OK || l == nil {
		t.Fatalf("Open: %v, %d", l, e)
	}
	return l
}

// again is the log behind a crash that leaves so much.
func again(t *testing.T, d *disk.Disk, most, keep int) *wal.Log {
	t.Helper()
	answers(t, "Crash", d.Crash(keep), api.OK)
	answers(t, "Restart", d.Restart(), api.OK)
	return opened(t, d, most)
}

func answers(t *testing.T, what string, got, want api.Errno) {
	t.Helper()
	if got != want {
		t.Errorf("%s: %d, want %d", what, got, want)
	}
}

// appends puts records behind a log's.
func appends(t *testing.T, l *wal.Log, records ...string) {
	t.Helper()
	for _, r := range records {
		want := l.Last() + 1
		if n, e := l.Append([]byte(r)); n != want || e != api.OK {
			t.Errorf("Append = %d, %d, want %d", n, e, want)
		}
	}
}

// look is a disk's files, also of one that is off, and how many of their bytes are synced.
func look(t *testing.T, d *disk.Disk) (files, map[string]int) {
	t.Helper()
	if d.Off() {
		d = d.Clone()
		answers(t, "Restart of a clone", d.Restart(), api.OK)
	}
	texts, synced := files{}, map[string]int{}
	for _, name := range d.List() {
		b, e := d.Get(name)
		answers(t, "Get "+name, e, api.OK)
		n, e := d.Synced(name)
		answers(t, "Synced "+name, e, api.OK)
		texts[name], synced[name] = string(b), n
	}
	return texts, synced
}

// stands tells where a disk has not just these files.
func stands(t *testing.T, d *disk.Disk, want files) {
	t.Helper()
	if got, _ := look(t, d); !reflect.DeepEqual(got, want) {
		t.Errorf("the disk has %q, want %q", got, want)
	}
}

// told is what All tells: numbers and records.
func told(l *wal.Log) []string {
	var texts []string
	for n, b := range l.All() {
		texts = append(texts, strconv.FormatInt(n, 10)+":"+string(b))
	}
	return texts
}

// numbered is what All is to tell of records from a number on.
func numbered(first int64, records ...string) []string {
	var texts []string
	for i, r := range records {
		texts = append(texts, strconv.FormatInt(first+int64(i), 10)+":"+r)
	}
	return texts
}

// has tells where a log has not just these records, or tells them otherwise than by their numbers.
func has(t *testing.T, l *wal.Log, first, synced int64, segments int, records ...string) {
	t.Helper()
	last := first + int64(len(records)) - 1
	if l.First() != first || l.Last() != last || l.Synced() != synced || l.Segments() != segments {
		t.Errorf("First %d, Last %d, Synced %d, Segments %d, want %d, %d, %d, %d",
			l.First(), l.Last(), l.Synced(), l.Segments(), first, last, synced, segments)
	}
	if got, want := told(l), numbered(first, records...); !slices.Equal(got, want) {
		t.Errorf("All: %q, want %q", short(got), short(want))
	}
	for i, r := range records {
		if b, e := l.Get(first + int64(i)); string(b) != r || e != api.OK {
			t.Errorf("Get(%d) = %q, %d, want %q", first+int64(i), b, e, r)
		}
	}
	for _, n := range []int64{first - 1, last + 1, -first, -1 << 63, 1<<63 - 1} {
		if b, e := l.Get(n); b != nil || e != api.ErrNone {
			t.Errorf("Get(%d) = %q, %d", n, b, e)
		}
	}
}

func short(texts []string) string {
	text := strings.Join(texts, " ")
	return text[:min(len(text), 500)]
}

// allocated is how many bytes of memory do takes.
func allocated(do func()) uint64 {
	var a, b runtime.MemStats
	runtime.ReadMemStats(&a)
	do()
	runtime.ReadMemStats(&b)
	return b.TotalAlloc - a.TotalAlloc
}
