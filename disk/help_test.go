package disk_test

import (
	"reflect"
	"testing"

	"bulla/api"
	"bulla/disk"
)

// entry is a file as a test tells it.
type entry struct {
	name, text string
	synced     int
}

// made is a disk of these files.
func made(t *testing.T, room int, files ...entry) *disk.Disk {
	t.Helper()
	d, e := disk.New(room)
	if e != api.OK {
		t.Fatalf("New(%d): %d", room, e)
	}
	for _, f := range files {
		answers(t, "Create "+f.name, d.Create(f.name), api.OK)
		answers(t, "Append "+f.name, d.Append(f.name, []byte(f.text[:f.synced])), api.OK)
		answers(t, "Sync "+f.name, d.Sync(f.name), api.OK)
		answers(t, "Append "+f.name, d.Append(f.name, []byte(f.text[f.synced:])), api.OK)
	}
	return d
}

func answers(t *testing.T, what string, got, want api.Errno) {
	t.Helper()
	if got != want {
		t.Errorf("%s: %d, want %d", what, got, want)
	}
}

// look is what a disk has, by names; one that is off is looked at by a clone.
func look(t *testing.T, d *disk.Disk) []entry {
	t.Helper()
	if d.Off() {
		d = d.Clone()
		answers(t, "Restart of a clone", d.Restart(), api.OK)
	}
	var l []entry
	for _, name := range d.List() {
		b, e := d.Get(name)
		answers(t, "Get "+name, e, api.OK)
		n, e := d.Synced(name)
		answers(t, "Synced "+name, e, api.OK)
		l = append(l, entry{name, string(b), n})
	}
	return l
}

// has tells where a disk has not just these files, by names, or other sums than theirs.
func has(t *testing.T, d *disk.Disk, room int, files ...entry) {
	t.Helper()
	if l := look(t, d); len(l)+len(files) > 0 && !reflect.DeepEqual(l, files) {
		t.Errorf("it has %v, want %v", l, files)
	}
	used := 0
	for _, f := range files {
		used += len(f.text)
	}
	if d.Used() != used || d.Room() != room-used {
		t.Errorf("Used %d, Room %d, want %d, %d", d.Used(), d.Room(), used, room-used)
	}
}
