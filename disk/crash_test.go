package disk_test

import (
	"bytes"
	"math"
	"runtime"
	"slices"
	"strconv"
	"testing"

	"bulla/api"
)

// P3.3: how much a crash leaves of what is not synced.
func TestCrash(t *testing.T) {
	for _, x := range []struct {
		keep    int
		a, b, d string // 2, 3 and 0 bytes of them are not synced
	}{
		{0, "123", "", "z"},
		{1, "1234", "v", "z"},
		{2, "12345", "vx", "z"},
		{3, "123", "vxy", "z"},
		{4, "1234", "", "z"},
		{7, "1234", "vxy", "z"},
		{11, "12345", "vxy", "z"},
		{12, "123", "", "z"},
		{-1, "1234", "v", "z"},
		{-2, "12345", "vx", "z"},
		{-3, "123", "vxy", "z"},
		{-5, "12345", "v", "z"},
		{math.MaxInt, "1234", "vxy", "z"}, // 2^63 - 1 is 1 modulo 3, and 3 modulo 4
		{-math.MaxInt, "1234", "vxy", "z"},
		{math.MinInt, "123", "", "z"},
		{1 << 32, "1234", "", "z"},
	} {
		d := made(t, 20, entry{"a", "12345", 3}, entry{"b", "vxy", 0}, entry{"c", "", 0}, entry{"d", "z", 1})
		answers(t, "Crash of "+strconv.Itoa(x.keep), d.Crash(x.keep), api.OK)
		left := []entry{{"a", x.a, len(x.a)}, {"b", x.b, len(x.b)}, {"c", "", 0}, {"d", x.d, len(x.d)}}
		if !d.Off() {
			t.Error("it is on behind a crash")
		}
		has(t, d, 20, left...)
		answers(t, "Restart", d.Restart(), api.OK)
		has(t, d, 20, left...)
		answers(t, "Crash again", d.Crash(0), api.OK) // all that stayed is synced
		has(t, d, 20, left...)
	}
}

// P3.3: the document's examples.
func TestExamples(t *testing.T) {
	for keep, want := range map[int][]byte{1: {1, 2, 3, 4}, 3: {1, 2, 3}} {
		d := made(t, 100, entry{"a", "", 0})
		answers(t, "Append", d.Append("a", []byte{1, 2, 3}), api.OK)
		answers(t, "Sync", d.Sync("a"), api.OK)
		answers(t, "Append", d.Append("a", []byte{4, 5}), api.OK)
		answers(t, "Crash", d.Crash(keep), api.OK)
		has(t, d, 100, entry{"a", string(want), len(want)})
	}
}

// Names stand at once, and stay: no Sync is needed of what Create, Rename, Truncate and Remove do.
func TestNamesStay(t *testing.T) {
	d := made(t, 50, entry{"cut", "123", 3}, entry{"gone", "45", 2}, entry{"old", "67", 1}, entry{"over", "89", 2}, entry{"by", "x", 1})
	for what, e := range map[string]api.Errno{
		"Create":      d.Create("new"),
		"Rename":      d.Rename("old", "young"),
		"Rename over": d.Rename("by", "over"),
		"Truncate":    d.Truncate("cut", 1),
		"Remove":      d.Remove("gone"),
		"Crash":       d.Crash(0),
		"Restart":     d.Restart(),
	} {
		answers(t, what, e, api.OK)
	}
	has(t, d, 50, entry{"cut", "1", 1}, entry{"new", "", 0}, entry{"over", "x", 1}, entry{"young", "6", 1})
}

// P3.3: what a disk that is off answers; nothing of it changes.
func TestOff(t *testing.T) {
	d := made(t, 9, entry{"b", "4", 1}, entry{"a", "123", 1})
	answers(t, "Restart of a disk that is on", d.Restart(), api.ErrArg)
	answers(t, "Crash", d.Crash(1), api.OK)
	for what, e := range calls(d) {
		answers(t, what, e, api.ErrOff)
	}
	tellsNothing(t, d)
	if !d.Off() || !slices.Equal(d.List(), []string{"a", "b"}) || d.Used() != 3 || d.Room() != 6 {
		t.Error("Off, List, Used, Room:", d.Off(), d.List(), d.Used(), d.Room())
	}
	if c := d.Clone(); !c.Off() || c.Create("c") != api.ErrOff {
		t.Error("a clone of a disk that is off is on")
	}
	has(t, d, 9, entry{"a", "12", 2}, entry{"b", "4", 1})
	answers(t, "Restart", d.Restart(), api.OK)
	answers(t, "Restart again", d.Restart(), api.ErrArg)
	if d.Off() {
		t.Error("it is off behind Restart")
	}
	answers(t, "Append", d.Append("a", []byte("5")), api.OK)
	has(t, d, 9, entry{"a", "125", 2}, entry{"b", "4", 1})
}

// P3.3: a clone goes its own way, and so does what it was made of.
func TestClone(t *testing.T) {
	a, b := entry{"a", "123", 2}, entry{"b", "4", 1}
	d := made(t, 9, a, b)
	c := d.Clone()
	again := c.Clone()
	has(t, c, 9, a, b)
	answers(t, "Write", d.Write("a", 0, []byte("xyz")), api.OK)
	answers(t, "Append", c.Append("a", []byte("5")), api.OK)
	answers(t, "Append", again.Append("a", []byte("67")), api.OK)
	answers(t, "Create", d.Create("d"), api.OK)
	answers(t, "Remove", c.Remove("b"), api.OK)
	answers(t, "Sync", again.Sync("b"), api.OK)
	has(t, d, 9, entry{"a", "xyz", 0}, b, entry{"d", "", 0})
	has(t, c, 9, entry{"a", "1235", 2})
	has(t, again, 9, entry{"a", "12367", 2}, b)
	answers(t, "Crash", c.Crash(0), api.OK)
	if d.Off() || again.Off() {
		t.Error("a clone's crash is another one's")
	}
	has(t, c, 9, entry{"a", "12", 2})
	has(t, d, 9, entry{"a", "xyz", 0}, b, entry{"d", "", 0})
	if made(t, 0).Clone() == nil {
		t.Error("a clone of a disk without files is none")
	}
}

// R3: what a disk was handed and what it answered are nobody else's.
func TestDiskKeepsOff(t *testing.T) {
	d := made(t, 90, entry{"a", "", 0}, entry{"b", "45", 0})
	for _, put := range []func(b []byte) api.Errno{
		func(b []byte) api.Errno { return d.Append("a", b) },
		func(b []byte) api.Errno { return d.Write("a", 0, b) },
		func(b []byte) api.Errno { return d.Write("b", 2, b[:0]) },
	} {
		b := []byte("123--")
		answers(t, "put", put(b[:3]), api.OK)
		if string(b) != "123--" {
			t.Errorf("what was handed in is written to: %q", b)
		}
		clear(b)
		has(t, d, 90, entry{"a", "123", 0}, entry{"b", "45", 0})
	}
	b, _ := d.Get("a")
	clear(b)
	_ = append(b, "more and more"...)
	answers(t, "Append", d.Append("a", []byte("6")), api.OK)
	if string(b) != "\x00\x00\x00" {
		t.Errorf("what was answered changes later on: %q", b)
	}
	l := d.List()
	l[0], l[1] = "x", "y"
	has(t, d, 90, entry{"a", "1236", 0}, entry{"b", "45", 0})
}

// allocated is how many bytes of memory do takes.
func allocated(do func()) uint64 {
	var a, b runtime.MemStats
	runtime.ReadMemStats(&a)
	do()
	runtime.ReadMemStats(&b)
	return b.TotalAlloc - a.TotalAlloc
}

// THE BOUND: small appends and writes do not take what a copy of the whole disk each would.
func TestCallsNearLinear(t *testing.T) {
	d := made(t, api.MaxRoom, entry{"a", "", 0})
	const many = 1 << 14
	m := allocated(func() {
		for i := range many {
			answers(t, "Append", d.Append("a", bytes.Repeat([]byte{byte(i)}, 16)), api.OK)
			answers(t, "Write", d.Write("a", i, []byte{1, 2}), api.OK)
			answers(t, "Sync", d.Sync("a"), api.OK)
		}
	})
	if d.Used() != many*16 || m > many<<10 {
		t.Errorf("%d bytes with %d bytes of memory", d.Used(), m)
	}
}
