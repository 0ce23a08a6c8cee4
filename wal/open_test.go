package wal_test

import (
	"math"
	"reflect"
	"strconv"
	"strings"
	"testing"

	"bulla/api"
	"bulla/disk"
	"bulla/wal"
)

// P4.2: a log that there was not, and the document's example.
func TestOpenNew(t *testing.T) {
	d := made(t, 100, nil)
	l := opened(t, d, 64)
	has(t, l, 1, 0, 1)
	stands(t, d, files{"log.1": head(1)})
	if head(1) != "\x01\x01"+frame("\x01")[2:] {
		t.Fatal("the head of 1 is the frame of the one byte 1")
	}
	if _, synced := look(t, d); synced["log.1"] != len(head(1)) {
		t.Error("synced:", synced)
	}
	has(t, again(t, d, 64, 0), 1, 0, 1)
	stands(t, d, files{"log.1": head(1)})
}

// P4.2: the names and sizes of segments that may be.
func TestOpenArguments(t *testing.T) {
	for _, name := range []string{"a", "z", "log", "abcdefghijklmnop", "zzzzzzzzzzzzzzzz"} {
		for _, most := range []int{api.MinSegment, api.MinSegment + 1, 1000, api.MaxRoom} {
			d := made(t, 100, nil)
			l, e := wal.Open(d, name, most)
			if e != api.OK {
				t.Errorf("Open(%q, %d): %d", name, most, e)
			}
			has(t, l, 1, 0, 1)
			stands(t, d, files{name + ".1": head(1)})
		}
	}
	d := made(t, 100, files{"log.1": file(1, "a") + "rest"})
	for _, name := range []string{"", "abcdefghijklmnopq", "Log", "LOG", "a.b", "log.", "a1", "1", "log ", " log", "a\x00", "`", "{", "é", "世", "\xff", "a\xe1", strings.Repeat("a", 1<<16)} {
		if l, e := wal.Open(d, name, 64); l != nil || e != api.ErrArg {
			t.Errorf("Open(%.20q) = %v, %d", name, l, e)
		}
	}
	for _, most := range []int{api.MinSegment - 1, 0, -1, -64, math.MinInt, api.MaxRoom + 1, math.MaxInt} {
		if l, e := wal.Open(d, "log", most); l != nil || e != api.ErrArg {
			t.Errorf("Open of %d = %v, %d", most, l, e)
		}
	}
	stands(t, d, files{"log.1": file(1, "a") + "rest"})
}

// P4.2: a disk that no call made, and one that is off, come ahead of all else.
func TestOpenNoDisk(t *testing.T) {
	with := files{"log.2": file(1, "a"), "log.4": "rest"}
	off := made(t, 100, with)
	answers(t, "Crash", off.Crash(99), api.OK)
	kept, _ := look(t, off)
	for _, x := range []struct {
		d *disk.Disk
		e api.Errno
	}{{nil, api.ErrMade}, {new(disk.Disk), api.ErrMade}, {off, api.ErrOff}} {
		for _, name := range []string{"log", "other", "", "Log"} {
			for _, most := range []int{64, 0, -1} {
				if l, e := wal.Open(x.d, name, most); l != nil || e != x.e {
					t.Errorf("Open(%q, %d) = %v, %d, want %d", name, most, l, e, x.e)
				}
			}
		}
	}
	stands(t, off, kept)
	if !off.Off() {
		t.Error("Open turned the disk on")
	}
}

// P4.2: a disk without room, or with too many files, for a log that there was not.
func TestOpenNoRoom(t *testing.T) {
	need := len(head(1))
	for room := range need {
		d := made(t, room, files{"x": ""})
		if l, e := wal.Open(d, "log", 64); l != nil || e != api.ErrRoom {
			t.Errorf("Open in %d bytes = %v, %d", room, l, e)
		}
		stands(t, d, files{"x": ""})
	}
	has(t, opened(t, made(t, need, nil), 64), 1, 0, 1)

	many := files{}
	for i := range api.MaxFiles {
		many["x"+strconv.Itoa(i)] = ""
	}
	d := made(t, 100, many)
	if l, e := wal.Open(d, "log", 64); l != nil || e != api.ErrFull {
		t.Errorf("Open on a disk of MaxFiles = %v, %d", l, e)
	}
	stands(t, d, many)
	answers(t, "Remove", d.Remove("x0"), api.OK)
	has(t, opened(t, d, 64), 1, 0, 1)
}

// P4.2: files that are no segments of the log stay as they are, whatever they have.
func TestOpenOtherFiles(t *testing.T) {
	with := files{}
	for _, name := range []string{"log", "log.", "log.0", "log.00", "log.01", "log.02", "log.+1", "log.-1", "log. 2", "log.2 ", "log.1.1", "log.1x", "log.x", "log.0x2", "log.1e1", "log.1_0",
		"log.1000000000000000", "log.9999999999999999999", "log.99999999999999999999", "log." + strings.Repeat("1", 300), "log.²", "log.\xb2", "log.٢", "alog.2", "logs.2", "lo.2", "Log.2", ".2", "2", "log2", "log/2", "core"} {
		with[name] = "no segment"
	}
	d := made(t, 1000, with)
	l := opened(t, d, 64)
	has(t, l, 1, 0, 1)
	appends(t, l, "a")
	with["log.1"] = file(1, "a")
	stands(t, d, with)
	logs, e := wal.Open(d, "logs", 64)
	if logs != nil || e != api.ErrBroken { // logs.2 is its only one, without a head
		t.Errorf("Open of logs = %v, %d", logs, e)
	}
	lo, e := wal.Open(d, "l", 64)
	if e != api.OK {
		t.Errorf("Open of l: %d", e)
	}
	has(t, lo, 1, 0, 1)
	with["l.1"] = head(1)
	stands(t, d, with)
}

// P4.2: segments that are whole are opened as they are.
func TestOpenWhole(t *testing.T) {
	big := strings.Repeat("b", 3000)
	most := strings.Repeat("m", api.MaxEntry)
	for _, x := range []struct {
		with    files
		first   int64
		records []string
	}{
		{files{"log.1": file(1)}, 1, nil},
		{files{"log.1": file(1, "a", "", "c")}, 1, []string{"a", "", "c"}},
		{files{"log.1": file(1, big, "a", most)}, 1, []string{big, "a", most}},
		{files{"log.1": file(1, "a", "b"), "log.2": file(3)}, 1, []string{"a", "b"}},
		{files{"log.1": file(1), "log.2": file(1)}, 1, nil},
		{files{"log.1": file(1), "log.2": file(1), "log.3": file(1, "a"), "log.4": file(2), "log.5": file(2, "b", "c")}, 1, []string{"a", "b", "c"}},
		{files{"log.3": file(8, "a"), "log.4": file(9, "b")}, 8, []string{"a", "b"}},
		{files{"log.7": file(300)}, 300, nil},
		{files{"log.1": file(5, "a")}, 5, []string{"a"}}, // nothing is said of the first head's number
		{files{"log.40": file(2, "a")}, 2, []string{"a"}},
		{files{"log.9": file(1, "a"), "log.10": file(2, "b"), "log.11": file(3, "c")}, 1, []string{"a", "b", "c"}}, // by numbers, not by names
		{files{"log.98": file(1, "a"), "log.99": file(2, "b"), "log.100": file(3, "c"), "log.101": file(4)}, 1, []string{"a", "b", "c"}},
		{files{"log.999999999999998": file(4, "a"), "log.999999999999999": file(5, "b")}, 4, []string{"a", "b"}},
		{files{"log.2": file(api.MaxNum-1, "a"), "log.3": file(api.MaxNum, "b")}, api.MaxNum - 1, []string{"a", "b"}},
	} {
		d := made(t, api.MaxRoom, x.with)
		l := opened(t, d, 64)
		has(t, l, x.first, x.first+int64(len(x.records))-1, len(x.with), x.records...)
		stands(t, d, x.with)
		has(t, again(t, d, api.MaxRoom, 0), x.first, x.first+int64(len(x.records))-1, len(x.with), x.records...) // all of it was made sure
	}
}

// P4.2: files that no log is stay as they are.
func TestOpenBroken(t *testing.T) {
	a := file(1, "a")
	turned := []byte(file(1, "a", "b"))
	turned[len(turned)-1] ^= 1
	for what, with := range map[string]files{
		"a number that there is not":              {"log.1": a, "log.3": file(2)},
		"two numbers that there are not":          {"log.1": a, "log.4": file(2)},
		"a number that there is not, rest":        {"log.2": a, "log.4": "rest"},
		"a number that there is not, later":       {"log.1": a, "log.2": file(2), "log.4": file(2)},
		"a first one without bytes":               {"log.1": "", "log.2": file(1)},
		"two without bytes":                       {"log.1": "", "log.2": ""},
		"two without bytes behind one":            {"log.1": a, "log.2": "", "log.3": ""},
		"a first one without a head":              {"log.1": "rest", "log.2": file(1)},
		"a first one with a cut head":             {"log.1": head(1)[:5], "log.2": file(1)},
		"a first one with rest":                   {"log.1": a + "rest", "log.2": file(2)},
		"a first one with a zero":                 {"log.1": a + "\x00", "log.2": file(2)},
		"a first one that is cut":                 {"log.1": a[:len(a)-1], "log.2": file(2)},
		"a first one that is cut, told by a head": {"log.1": a[:len(a)-1], "log.2": file(1)},
		"a turned bit in one ahead":               {"log.1": string(turned), "log.2": file(3)},
		"a turned bit in one ahead, told so":      {"log.1": string(turned), "log.2": file(2)},
		"one within without a head":               {"log.1": a, "log.2": "", "log.3": file(2)},
		"one within with rest":                    {"log.1": a, "log.2": file(2) + "rest", "log.3": file(2)},
		"a head of more":                          {"log.1": a, "log.2": file(3)},
		"a head of less":                          {"log.1": a, "log.2": file(1)},
		"a head of more, with records":            {"log.1": a, "log.2": file(3, "b")},
		"a head of less, and rest":                {"log.1": a, "log.2": file(1, "b") + "rest"},
		"a head of more within":                   {"log.1": a, "log.2": file(3), "log.3": file(3)},
		"a head of less at the end":               {"log.1": a, "log.2": file(2, "b"), "log.3": file(2)},
		"a first one that tells 0":                {"log.1": file(0), "log.2": file(0)},
		"a first one that tells 0, with records":  {"log.1": file(0, "a"), "log.2": file(1)},
		"a first one with too great a number":     {"log.1": file(api.MaxNum + 1), "log.2": file(api.MaxNum + 1)},
		"a first one with the greatest number":    {"log.1": file(math.MaxUint64, "a"), "log.2": file(1)},
		"a head with rest within":                 {"log.1": frame("\x01\x01") + frame("a"), "log.2": file(2)},
		"a head not in its shortest form":         {"log.1": frame("\x81\x00") + frame("a"), "log.2": file(2)},
		"a head of no bytes":                      {"log.1": frame(""), "log.2": file(1)},
		"the only one, of 2, without bytes":       {"log.2": ""},
		"the only one, of 2, with a cut head":     {"log.2": head(7)[:5]},
		"the only one, of 2, with rest":           {"log.2": "rest" + file(7)},
		"the only one, of 2, that tells 0":        {"log.2": file(0, "a")},
		"the only one, of 2, with too great one":  {"log.2": file(api.MaxNum + 1)},
		"the only one, of 10, without a head":     {"log.10": "rest"},
		"the only one, of 15 digits":              {"log.999999999999999": ""},
	} {
		d := made(t, 1000, with)
		_, was := look(t, d)
		if l, e := wal.Open(d, "log", 64); l != nil || e != api.ErrBroken {
			t.Errorf("Open of %s = %v, %d", what, l, e)
		}
		stands(t, d, with)
		if _, is := look(t, d); !reflect.DeepEqual(was, is) {
			t.Errorf("Open of %s is refused, and has synced something", what)
		}
	}
}

// P4.2: what a crash, or damage, leaves of the last segment.
func TestOpenMends(t *testing.T) {
	turned := []byte(file(3, "c", "d", "e"))
	turned[len(file(3, "c"))+1] ^= 0x80
	whole := file(1, "a", "b")
	for what, x := range map[string]struct {
		last, want string
		records    []string
	}{
		"nothing":                 {"", file(3), nil},
		"a byte":                  {"\x01", file(3), nil},
		"a cut head":              {head(3)[:len(head(3))-1], file(3), nil},
		"more than a head":        {strings.Repeat("rest", 50), file(3), nil},
		"a head that is turned":   {"\x01\x02" + file(3, "c", "d")[2:], file(3), nil},
		"records without a head":  {frame("cc") + frame("d"), file(3), nil}, // "c" alone would be a head that tells 99
		"a head of 0":             {file(0, "c"), file(3), nil},
		"a head that is too long": {frame("\x03\x00") + frame("c"), file(3), nil},
		"a head above MaxNum":     {file(api.MaxNum+1, "c"), file(3), nil},
		"a head of 2^63":          {file(1<<63, "c"), file(3), nil},
		"a head of 2^64 - 1":      {file(math.MaxUint64, "c"), file(3), nil},
		"a head of ten bytes":     {frame("\xff\xff\xff\xff\xff\xff\xff\xff\xff\x02"), file(3), nil},
		"a head alone":            {file(3), file(3), nil},
		"a head and a byte":       {file(3) + "\x05", file(3), nil},
		"a cut record":            {file(3, "c", "d")[:len(file(3, "c"))+3], file(3, "c"), []string{"c"}},
		"a record but for a byte": {file(3, "c", "d")[:len(file(3, "c", "d"))-1], file(3, "c"), []string{"c"}},
		"a record and a zero":     {file(3, "c") + "\x00", file(3, "c"), []string{"c"}},
		"records that are turned": {string(turned), file(3, "c"), []string{"c"}},
		"records behind rest":     {file(3, "c") + "x" + frame("d"), file(3, "c"), []string{"c"}},
		"whole records":           {file(3, "c", "", "e"), file(3, "c", "", "e"), []string{"c", "", "e"}},
		"one that is too long":    {file(3, "c") + "\x81\x80\x20" + strings.Repeat("x", api.MaxEntry+1), file(3, "c"), []string{"c"}},
	} {
		d := made(t, api.MaxRoom, files{"log.1": whole, "log.2": x.last, "other": "rest"})
		l := opened(t, d, 64)
		records := append([]string{"a", "b"}, x.records...)
		has(t, l, 1, int64(len(records)), 2, records...)
		after := files{"log.1": whole, "log.2": x.want, "other": "rest"}
		stands(t, d, after)
		has(t, opened(t, d, 64), 1, int64(len(records)), 2, records...) // opened again, it is the same
		stands(t, d, after)
		if t.Failed() {
			t.Fatal(what)
		}
		appends(t, l, "more")
		answers(t, "Sync", l.Sync(), api.OK)
		has(t, again(t, d, 64, 0), 1, int64(len(records)+1), 2, append(records, "more")...)
		if t.Failed() {
			t.Fatal(what, "and more")
		}
	}
}

// P4.2: the first segment, if it is the only one, begins anew with 1, where its number is 1.
func TestOpenMendsFirst(t *testing.T) {
	for what, x := range map[string]struct {
		with, want files
		first      int64
		records    []string
	}{
		"no bytes":              {files{"log.1": ""}, files{"log.1": file(1)}, 1, nil},
		"a cut head":            {files{"log.1": head(1)[:3]}, files{"log.1": file(1)}, 1, nil},
		"rest":                  {files{"log.1": strings.Repeat("rest", 20)}, files{"log.1": file(1)}, 1, nil},
		"a head of 0":           {files{"log.1": file(0, "a")}, files{"log.1": file(1)}, 1, nil},
		"a cut record":          {files{"log.1": file(1, "a") + "\x03"}, files{"log.1": file(1, "a")}, 1, []string{"a"}},
		"a cut record, of 2":    {files{"log.2": file(9, "a") + "\x03"}, files{"log.2": file(9, "a")}, 9, []string{"a"}},
		"a head of 5, and rest": {files{"log.1": file(5, "a") + "rest"}, files{"log.1": file(5, "a")}, 5, []string{"a"}},
		"no head behind 300":    {files{"log.7": file(300), "log.8": "x"}, files{"log.7": file(300), "log.8": file(300)}, 300, nil},
		"no head behind 301":    {files{"log.7": file(300, "a"), "log.8": ""}, files{"log.7": file(300, "a"), "log.8": file(301)}, 300, []string{"a"}},
		"no head behind 10":     {files{"log.9": file(4, "a"), "log.10": file(5, "b"), "log.11": ""}, files{"log.9": file(4, "a"), "log.10": file(5, "b"), "log.11": file(6)}, 4, []string{"a", "b"}},
	} {
		d := made(t, 200, x.with)
		l := opened(t, d, 64)
		has(t, l, x.first, x.first+int64(len(x.records))-1, len(x.want), x.records...)
		stands(t, d, x.want)
		has(t, again(t, d, 64, 0), x.first, x.first+int64(len(x.records))-1, len(x.want), x.records...)
		stands(t, d, x.want)
		if t.Failed() {
			t.Fatal(what)
		}
	}
}

// P4.2, R2: where a disk has no room for a head anew, nothing has changed.
func TestOpenMendsNoRoom(t *testing.T) {
	with := files{"log.1": "\x01\x01", "other": "12345678"}
	d := made(t, 10+len(head(1))-3, with)
	if l, e := wal.Open(d, "log", 64); l != nil || e != api.ErrRoom {
		t.Errorf("Open = %v, %d", l, e)
	}
	stands(t, d, with)
	answers(t, "Truncate", d.Truncate("other", 7), api.OK)
	has(t, opened(t, d, 64), 1, 0, 1)
	stands(t, d, files{"log.1": head(1), "other": "1234567"})

	full := made(t, len(head(1)), files{"log.1": "123456"}) // what stood there makes the room
	has(t, opened(t, full, 64), 1, 0, 1)
	stands(t, full, files{"log.1": head(1)})
}

// Nothing is written where nothing is to be mended: a full disk can be opened.
func TestOpenFullDisk(t *testing.T) {
	with := files{"log.1": file(1, "a"), "log.2": file(2, "b")}
	d := made(t, len(with["log.1"])+len(with["log.2"]), with)
	has(t, opened(t, d, 64), 1, 2, 2, "a", "b")
	stands(t, d, with)
}

// Two logs on one disk do not touch each other.
func TestTwoLogs(t *testing.T) {
	d := made(t, 1000, nil)
	a := opened(t, d, 64)
	b, e := wal.Open(d, "lo", 64)
	answers(t, "Open", e, api.OK)
	appends(t, a, "1", "2")
	appends(t, b, "x")
	answers(t, "Roll", a.Roll(), api.OK)
	appends(t, a, "3")
	answers(t, "Prune", a.Prune(2), api.OK)
	stands(t, d, files{"log.2": file(3, "3"), "lo.1": file(1, "x")})
	has(t, a, 3, 2, 1, "3")
	has(t, b, 1, 0, 1, "x")
}

// THE BOUND: a disk full of the shortest records is opened in near-linear memory, and gone through so.
func TestOpenNearLinear(t *testing.T) {
	const many = 1 << 17
	with := files{"log.1": head(1) + strings.Repeat(frame(""), many), "log.2": file(many+1) + strings.Repeat(frame("x"), many)}
	d := made(t, api.MaxRoom, with)
	m := allocated(func() {
		l := opened(t, d, 64)
		n := int64(0)
		for k, b := range l.All() {
			n++
			if k != n || len(b) != int((n-1)/many) {
				t.Fatalf("record %d: %d, %q", n, k, b)
			}
		}
		if n != 2*many || l.Last() != n {
			t.Errorf("%d records, Last %d", n, l.Last())
		}
	})
	if m > many<<10 {
		t.Errorf("%d bytes of memory", m)
	}
}
