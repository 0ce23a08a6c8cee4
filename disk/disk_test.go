package disk_test

import (
	"bytes"
	"math"
	"slices"
	"strconv"
	"testing"

	"bulla/api"
	"bulla/disk"
)

// P3.1: New.
func TestNew(t *testing.T) {
	for _, room := range []int{0, 1, 1000, api.MaxRoom} {
		d, e := disk.New(room)
		if d == nil || e != api.OK || d.Off() {
			t.Fatalf("New(%d): %d", room, e)
		}
		has(t, d, room)
	}
	for _, room := range []int{-1, math.MinInt, api.MaxRoom + 1, math.MaxInt} {
		if d, e := disk.New(room); d != nil || e != api.ErrArg {
			t.Errorf("New(%d) = %v, %d", room, d, e)
		}
	}
}

// P3.1: Create.
func TestCreate(t *testing.T) {
	d := made(t, 9)
	for _, name := range []string{"b", "a"} {
		answers(t, "Create", d.Create(name), api.OK)
	}
	has(t, d, 9, entry{"a", "", 0}, entry{"b", "", 0})
	answers(t, "Append", d.Append("a", []byte("x")), api.OK)
	answers(t, "Create of a file that there is", d.Create("a"), api.ErrClash)
	answers(t, "Create of no name", d.Create(""), api.ErrArg)
	has(t, d, 9, entry{"a", "x", 0}, entry{"b", "", 0})
	answers(t, "Remove", d.Remove("a"), api.OK)
	answers(t, "Create of a file that was", d.Create("a"), api.OK)
	has(t, d, 9, entry{"a", "", 0}, entry{"b", "", 0})
}

// P3.1: there are MaxFiles at most; the errors of Create in their order.
func TestMaxFiles(t *testing.T) {
	d := made(t, 0) // files without bytes take no room
	var names []string
	for i := range api.MaxFiles {
		names = append(names, "f"+strconv.Itoa(i))
		answers(t, "Create "+names[i], d.Create(names[i]), api.OK)
	}
	slices.Sort(names)
	for _, x := range []struct {
		name string
		e    api.Errno
	}{{"g", api.ErrFull}, {"f9", api.ErrClash}, {"", api.ErrArg}} {
		answers(t, "Create "+x.name+" on a full disk", d.Create(x.name), x.e)
	}
	if !slices.Equal(d.List(), names) {
		t.Error("List:", d.List())
	}
	answers(t, "Rename on a full disk", d.Rename("f9", "z"), api.OK)
	answers(t, "Create on a full disk", d.Create("f9"), api.ErrFull)
	answers(t, "Rename onto another one", d.Rename("z", "f8"), api.OK)
	answers(t, "Create of the last one", d.Create("f9"), api.OK)
	answers(t, "Create on a full disk", d.Create("g"), api.ErrFull)
	answers(t, "Remove", d.Remove("f0"), api.OK)
	answers(t, "Create of the last one", d.Create("g"), api.OK)
	if len(d.List()) != api.MaxFiles {
		t.Error("List:", d.List())
	}
}

// P3.1 and P3.2: a name is any text but the empty one; names rise byte by byte.
func TestNames(t *testing.T) {
	long := string(bytes.Repeat([]byte("n"), 5000))
	names := []string{"b", "é", "\xff", "a", "aa", "a\x00", "\x00", " ", "B", "a/b", "..", "10", "9", long, "\xc3", "世"}
	d := made(t, 100)
	for i, name := range names {
		answers(t, "Create", d.Create(name), api.OK)
		answers(t, "Append", d.Append(name, []byte{byte(i)}), api.OK)
	}
	for i, name := range names {
		if b, e := d.Get(name); e != api.OK || !bytes.Equal(b, []byte{byte(i)}) {
			t.Errorf("Get(%q) = %v, %d", name, b, e)
		}
	}
	want := slices.Clone(names)
	slices.SortFunc(want, func(x, y string) int { return bytes.Compare([]byte(x), []byte(y)) })
	if l := d.List(); !slices.Equal(l, want) {
		t.Errorf("List = %q, want %q", l, want)
	}
}

// P3.1: Append.
func TestAppend(t *testing.T) {
	d := made(t, 6, entry{"a", "12", 2}, entry{"b", "3", 0})
	for _, x := range []struct {
		name, b, text string
		e             api.Errno
	}{
		{"a", "", "12", api.OK},
		{"a", "3", "123", api.OK},
		{"a", "456", "123", api.ErrRoom},
		{"c", "4", "123", api.ErrNone},
		{"c", "45678", "123", api.ErrNone}, // named ahead of ErrRoom
		{"", "4", "123", api.ErrNone},
		{"a", "45", "12345", api.OK}, // no room is left
		{"a", "6", "12345", api.ErrRoom},
		{"a", "", "12345", api.OK},
	} {
		answers(t, "Append of "+x.b+" to "+x.name, d.Append(x.name, []byte(x.b)), x.e)
		has(t, d, 6, entry{"a", x.text, 2}, entry{"b", "3", 0})
	}
	answers(t, "Append of nil", d.Append("b", nil), api.OK)
	answers(t, "Append to a full disk", d.Append("b", []byte("4")), api.ErrRoom)
	has(t, d, 6, entry{"a", "12345", 2}, entry{"b", "3", 0})
}

// P3.1: Append and Write at the bounds of the room.
func TestRoom(t *testing.T) {
	d := made(t, 0, entry{"a", "", 0})
	answers(t, "Append of nothing", d.Append("a", nil), api.OK)
	answers(t, "Write of nothing", d.Write("a", 0, nil), api.OK)
	answers(t, "Append", d.Append("a", []byte{1}), api.ErrRoom)
	answers(t, "Write", d.Write("a", 0, []byte{1}), api.ErrRoom)
	has(t, d, 0, entry{"a", "", 0})

	most := made(t, api.MaxRoom, entry{"a", "", 0}, entry{"b", "1", 1})
	big := make([]byte, api.MaxRoom)
	answers(t, "Append", most.Append("a", big), api.ErrRoom)
	answers(t, "Write", most.Write("a", 0, big), api.ErrRoom)
	answers(t, "Write over", most.Write("b", 0, big), api.OK)
	answers(t, "Append", most.Append("b", []byte{1}), api.ErrRoom)
	answers(t, "Append", most.Append("a", []byte{1}), api.ErrRoom)
	answers(t, "Write over", most.Write("b", 1, big[1:]), api.OK)
	answers(t, "Write behind", most.Write("b", 1, big), api.ErrRoom)
	has(t, most, api.MaxRoom, entry{"a", "", 0}, entry{"b", string(big), 0})
}

// P3.1: Write.
func TestWrite(t *testing.T) {
	for _, x := range []struct {
		at     int
		b      string
		text   string
		synced int
		e      api.Errno
	}{
		{0, "xy", "xy345", 0, api.OK},
		{1, "xy", "1xy45", 1, api.OK},
		{2, "xy", "12xy5", 2, api.OK},
		{3, "xy", "123xy", 3, api.OK},
		{4, "xy", "1234xy", 3, api.OK},
		{5, "xy", "12345xy", 3, api.OK},
		{5, "xyz", "12345xyz", 3, api.OK}, // no room is left
		{0, "abcdefgh", "abcdefgh", 0, api.OK},
		{4, "vxyz", "1234vxyz", 3, api.OK},
		{3, "", "12345", 3, api.OK},
		{5, "", "12345", 3, api.OK},
		{2, "", "12345", 2, api.OK}, // at most the bytes ahead of 2 stay synced
		{0, "", "12345", 0, api.OK},
		{6, "", "12345", 3, api.ErrArg},
		{6, "x", "12345", 3, api.ErrArg},
		{-1, "x", "12345", 3, api.ErrArg},
		{-1, "", "12345", 3, api.ErrArg},
		{math.MinInt, "x", "12345", 3, api.ErrArg},
		{math.MaxInt, "x", "12345", 3, api.ErrArg},
		{6, "123456789", "12345", 3, api.ErrArg}, // named ahead of ErrRoom
		{-1, "123456789abc", "12345", 3, api.ErrArg},
		{0, "abcdefghi", "12345", 3, api.ErrRoom},
		{3, "abcdef", "12345", 3, api.ErrRoom},
		{5, "abcd", "12345", 3, api.ErrRoom},
	} {
		d := made(t, 10, entry{"a", "12345", 3}, entry{"b", "67", 1})
		answers(t, "Write at "+strconv.Itoa(x.at)+" of "+x.b, d.Write("a", x.at, []byte(x.b)), x.e)
		has(t, d, 10, entry{"a", x.text, x.synced}, entry{"b", "67", 1})
	}
	d := made(t, 2, entry{"a", "12", 2})
	for _, at := range []int{0, -1, 5} { // ErrNone is named ahead of the others
		answers(t, "Write of no file", d.Write("b", at, []byte("12345")), api.ErrNone)
		answers(t, "Write of no name", d.Write("", at, nil), api.ErrNone)
	}
	has(t, d, 2, entry{"a", "12", 2})
}

// P3.1: Sync.
func TestSync(t *testing.T) {
	d := made(t, 9, entry{"a", "123", 1}, entry{"b", "45", 0}, entry{"c", "", 0})
	answers(t, "Sync", d.Sync("a"), api.OK)
	has(t, d, 9, entry{"a", "123", 3}, entry{"b", "45", 0}, entry{"c", "", 0})
	answers(t, "Append", d.Append("a", []byte("6")), api.OK)
	has(t, d, 9, entry{"a", "1236", 3}, entry{"b", "45", 0}, entry{"c", "", 0})
	answers(t, "Sync", d.Sync("b"), api.OK)
	answers(t, "Sync again", d.Sync("b"), api.OK)
	answers(t, "Sync of no bytes", d.Sync("c"), api.OK)
	answers(t, "Sync of no file", d.Sync("d"), api.ErrNone)
	answers(t, "Sync of no name", d.Sync(""), api.ErrNone)
	has(t, d, 9, entry{"a", "1236", 3}, entry{"b", "45", 2}, entry{"c", "", 0})
}

// P3.1: Rename.
func TestRename(t *testing.T) {
	a, b := entry{"a", "123", 1}, entry{"b", "45", 2}
	for _, x := range []struct {
		name, to string
		e        api.Errno
		files    []entry
	}{
		{"a", "c", api.OK, []entry{b, {"c", "123", 1}}},
		{"b", "0", api.OK, []entry{{"0", "45", 2}, a}},
		{"a", "b", api.OK, []entry{{"b", "123", 1}}}, // the one that was b is no more
		{"b", "a", api.OK, []entry{{"a", "45", 2}}},
		{"a", "a", api.OK, []entry{a, b}},
		{"b", "b", api.OK, []entry{a, b}},
		{"a", "", api.ErrArg, []entry{a, b}},
		{"c", "d", api.ErrNone, []entry{a, b}},
		{"c", "a", api.ErrNone, []entry{a, b}},
		{"c", "c", api.ErrNone, []entry{a, b}},
		{"c", "", api.ErrNone, []entry{a, b}}, // named ahead of ErrArg
		{"", "c", api.ErrNone, []entry{a, b}},
		{"", "", api.ErrNone, []entry{a, b}},
	} {
		d := made(t, 9, a, b)
		answers(t, "Rename of "+x.name+" to "+x.to, d.Rename(x.name, x.to), x.e)
		has(t, d, 9, x.files...)
		if _, e := d.Get(x.name); e == api.OK && x.e == api.OK && x.name != x.to {
			t.Errorf("%s is there, renamed to %s", x.name, x.to)
		}
	}
}

// P3.1: two files that change their names stay two files.
func TestRenameRound(t *testing.T) {
	d := made(t, 20, entry{"a", "123", 1}, entry{"b", "45", 2})
	for _, x := range [][2]string{{"a", "t"}, {"b", "a"}, {"t", "b"}} {
		answers(t, "Rename", d.Rename(x[0], x[1]), api.OK)
	}
	has(t, d, 20, entry{"a", "45", 2}, entry{"b", "123", 1})
	answers(t, "Append", d.Append("a", []byte("6")), api.OK)
	answers(t, "Write", d.Write("b", 1, []byte("x")), api.OK)
	has(t, d, 20, entry{"a", "456", 2}, entry{"b", "1x3", 1})
}

// P3.1: Truncate.
func TestTruncate(t *testing.T) {
	for _, x := range []struct {
		n      int
		text   string
		synced int
		e      api.Errno
	}{
		{5, "12345", 3, api.OK},
		{4, "1234", 3, api.OK},
		{3, "123", 3, api.OK},
		{2, "12", 2, api.OK},
		{0, "", 0, api.OK},
		{6, "12345", 3, api.ErrArg},
		{-1, "12345", 3, api.ErrArg},
		{math.MaxInt, "12345", 3, api.ErrArg},
		{math.MinInt, "12345", 3, api.ErrArg},
	} {
		d := made(t, 7, entry{"a", "12345", 3}, entry{"b", "67", 2})
		answers(t, "Truncate to "+strconv.Itoa(x.n), d.Truncate("a", x.n), x.e)
		has(t, d, 7, entry{"a", x.text, x.synced}, entry{"b", "67", 2})
		answers(t, "Truncate of no file", d.Truncate("c", x.n), api.ErrNone)
		answers(t, "Truncate of no name", d.Truncate("", x.n), api.ErrNone)
		if room := d.Room(); d.Append("a", bytes.Repeat([]byte("x"), room+1)) != api.ErrRoom ||
			d.Append("a", bytes.Repeat([]byte("x"), room)) != api.OK {
			t.Errorf("Append behind Truncate to %d fills other than the room of %d", x.n, room)
		}
		has(t, d, 7, entry{"a", (x.text + "xxxxx")[:5], x.synced}, entry{"b", "67", 2})
	}
}

// P3.1: Remove.
func TestRemove(t *testing.T) {
	d := made(t, 5, entry{"a", "123", 3}, entry{"b", "45", 0})
	answers(t, "Remove of no file", d.Remove("c"), api.ErrNone)
	answers(t, "Remove of no name", d.Remove(""), api.ErrNone)
	has(t, d, 5, entry{"a", "123", 3}, entry{"b", "45", 0})
	answers(t, "Remove", d.Remove("a"), api.OK)
	has(t, d, 5, entry{"b", "45", 0})
	answers(t, "Remove again", d.Remove("a"), api.ErrNone)
	if b, e := d.Get("a"); b != nil || e != api.ErrNone {
		t.Errorf("Get of what was removed: %q, %d", b, e)
	}
	answers(t, "Append to the room that is free again", d.Append("b", []byte("678")), api.OK)
	answers(t, "Remove", d.Remove("b"), api.OK)
	has(t, d, 5)
}

// P3.2: Get and Synced.
func TestGet(t *testing.T) {
	d := made(t, 5, entry{"a", "123", 2}, entry{"b", "", 0})
	if b, e := d.Get("a"); string(b) != "123" || e != api.OK {
		t.Errorf("Get = %q, %d", b, e)
	}
	if n, e := d.Synced("a"); n != 2 || e != api.OK {
		t.Errorf("Synced = %d, %d", n, e)
	}
	if b, e := d.Get("b"); len(b) != 0 || e != api.OK {
		t.Errorf("Get of no bytes = %q, %d", b, e)
	}
	for _, name := range []string{"", "c", "A", "a\x00", "aa"} {
		if b, e := d.Get(name); b != nil || e != api.ErrNone {
			t.Errorf("Get(%q) = %q, %d", name, b, e)
		}
		if n, e := d.Synced(name); n != 0 || e != api.ErrNone {
			t.Errorf("Synced(%q) = %d, %d", name, n, e)
		}
	}
	has(t, d, 5, entry{"a", "123", 2}, entry{"b", "", 0})
}

// P3.3: a disk that no call made.
func TestDiskOfNoCall(t *testing.T) {
	var none *disk.Disk
	for _, d := range []*disk.Disk{none, {}, new(disk.Disk)} {
		for range 2 {
			for what, e := range calls(d) {
				answers(t, what, e, api.ErrMade)
			}
			answers(t, "Restart", d.Restart(), api.ErrMade)
			tellsNothing(t, d)
			if d.List() != nil || d.Used() != 0 || d.Room() != 0 || d.Off() || d.Clone() != nil {
				t.Error("List, Used, Room, Off or Clone tell something")
			}
		}
	}
}

// calls is what those calls answer that a disk must be made and on for, at arguments that have other errors.
func calls(d *disk.Disk) map[string]api.Errno {
	return map[string]api.Errno{
		"Create":           d.Create("a"),
		"Create of none":   d.Create(""),
		"Append":           d.Append("a", []byte("x")),
		"Append too much":  d.Append("none", make([]byte, 99)),
		"Write":            d.Write("a", 0, []byte("x")),
		"Write at -1":      d.Write("a", -1, make([]byte, 99)),
		"Write of none":    d.Write("none", 0, nil),
		"Sync":             d.Sync("a"),
		"Sync of none":     d.Sync(""),
		"Rename":           d.Rename("a", "b"),
		"Rename to itself": d.Rename("a", "a"),
		"Rename to none":   d.Rename("none", ""),
		"Truncate":         d.Truncate("a", 0),
		"Truncate to -1":   d.Truncate("a", -1),
		"Truncate of none": d.Truncate("none", 0),
		"Remove":           d.Remove("a"),
		"Remove of none":   d.Remove("none"),
		"Crash":            d.Crash(0),
		"Crash of all":     d.Crash(99),
	}
}

// tellsNothing tells where Get and Synced tell something beside an error.
func tellsNothing(t *testing.T, d *disk.Disk) {
	t.Helper()
	want := api.ErrMade
	if d.Off() {
		want = api.ErrOff
	}
	for _, name := range []string{"a", "none", ""} {
		if b, e := d.Get(name); b != nil || e != want {
			t.Errorf("Get(%q) = %q, %d, want %d", name, b, e, want)
		}
		if n, e := d.Synced(name); n != 0 || e != want {
			t.Errorf("Synced(%q) = %d, %d, want %d", name, n, e, want)
		}
	}
}
