package wal_test

import (
	"bytes"
	"iter"
	"math"
	"slices"
	"strconv"
	"strings"
	"testing"

	"bulla/api"
	"bulla/disk"
	"bulla/wal"
)

// P4.3: Append.
func TestAppend(t *testing.T) {
	d := made(t, 1000, nil)
	l := opened(t, d, 200)
	records := []string{"a", "", "\x00\xff", "a", strings.Repeat("x", 130)}
	for i, r := range records {
		if n, e := l.Append([]byte(r)); n != int64(i+1) || e != api.OK {
			t.Errorf("Append = %d, %d", n, e)
		}
		has(t, l, 1, 0, 1, records[:i+1]...)
		stands(t, d, files{"log.1": file(1, records[:i+1]...)})
	}
	if n, e := l.Append(nil); n != 6 || e != api.OK {
		t.Errorf("Append of nil = %d, %d", n, e)
	}
	has(t, l, 1, 0, 1, append(records, "")...)
	if _, synced := look(t, d); synced["log.1"] != len(head(1)) {
		t.Error("Append makes something sure:", synced)
	}
}

// P4.3: the segment that is full is the one that has most bytes or more.
func TestAppendRolls(t *testing.T) {
	for _, x := range []struct {
		first    string // a record
		most     int
		segments int
	}{
		{strings.Repeat("x", 100), len(file(1)) + len(frame(strings.Repeat("x", 100))) + 1, 1},
		{strings.Repeat("x", 100), len(file(1)) + len(frame(strings.Repeat("x", 100))), 2},
		{strings.Repeat("x", 100), len(file(1)) + len(frame(strings.Repeat("x", 100))) - 1, 2},
		{strings.Repeat("x", 100), api.MinSegment, 2},
		{strings.Repeat("x", 52), api.MinSegment, 1}, // 6, 1, 52 and 4 bytes
		{strings.Repeat("x", 53), api.MinSegment, 2},
		{strings.Repeat("x", api.MaxEntry), api.MinSegment, 2},
		{strings.Repeat("x", api.MaxEntry), api.MaxRoom, 1},
	} {
		d := made(t, api.MaxRoom, nil)
		l := opened(t, d, x.most)
		appends(t, l, x.first)
		has(t, l, 1, 0, 1, x.first)
		known := opened(t, d.Clone(), x.most) // Open knows the sizes, too
		appends(t, l, "a")
		appends(t, known, "a")
		want := files{"log.1": file(1, x.first, "a")}
		synced := int64(0)
		if x.segments == 2 {
			want = files{"log.1": file(1, x.first), "log.2": file(2, "a")}
			synced = 1 // Roll makes sure what is ahead
		}
		has(t, l, 1, synced, x.segments, x.first, "a")
		stands(t, d, want)
		has(t, known, 1, 1, x.segments, x.first, "a")
	}
	d := made(t, 10000, nil)
	l := opened(t, d, api.MinSegment)
	for i := range 20 {
		appends(t, l, strings.Repeat("r", 9))
		if want := i/5 + 1; l.Segments() != want { // 6 bytes of a head, 14 of a record: the fifth one makes 76
			t.Errorf("%d records in %d segments, want %d", i+1, l.Segments(), want)
		}
	}
}

// P4.3: what Append refuses, nothing of which stays.
func TestAppendRefused(t *testing.T) {
	d := made(t, len(file(1, "a", "b")), nil)
	l := opened(t, d, 64)
	appends(t, l, "a")
	for _, x := range []struct {
		n int
		e api.Errno
	}{{2, api.ErrRoom}, {100, api.ErrRoom}, {api.MaxEntry, api.ErrRoom}, {api.MaxEntry + 1, api.ErrLong}, {1 << 22, api.ErrLong}} {
		if n, e := l.Append(make([]byte, x.n)); n != 0 || e != x.e {
			t.Errorf("Append of %d bytes = %d, %d, want %d", x.n, n, e, x.e)
		}
		has(t, l, 1, 0, 1, "a")
		stands(t, d, files{"log.1": file(1, "a")})
	}
	appends(t, l, "b")
	if n, e := l.Append(nil); n != 0 || e != api.ErrRoom {
		t.Errorf("Append to a full disk = %d, %d", n, e)
	}
	has(t, l, 1, 0, 1, "a", "b")
	answers(t, "Sync", l.Sync(), api.OK)
	has(t, again(t, d, 64, 0), 1, 2, 1, "a", "b")

	big := opened(t, made(t, api.MaxRoom, nil), 64)
	most := strings.Repeat("m", api.MaxEntry)
	appends(t, big, most)
	if n, e := big.Append(make([]byte, api.MaxEntry+1)); n != 0 || e != api.ErrLong {
		t.Errorf("Append of more than MaxEntry = %d, %d", n, e)
	}
	has(t, big, 1, 0, 1, most) // not even a Roll
}

// P4.3: Append answers the error of the Roll that it needs; what that Roll made sure stays so.
func TestAppendRollRefused(t *testing.T) {
	r := strings.Repeat("r", 60)
	for _, room := range []int{0, 5} {
		d := made(t, len(file(1, r))+room, nil)
		l := opened(t, d, 64)
		appends(t, l, r)
		if n, e := l.Append([]byte("a")); n != 0 || e != api.ErrRoom {
			t.Errorf("Append = %d, %d", n, e)
		}
		has(t, l, 1, 1, 1, r)
		stands(t, d, files{"log.1": file(1, r)})
	}
	d := made(t, 1000, nil)
	l := opened(t, d, 64)
	appends(t, l, r)
	for i := range api.MaxFiles - 1 {
		answers(t, "Create", d.Create("x"+strconv.Itoa(i)), api.OK)
	}
	if n, e := l.Append([]byte("a")); n != 0 || e != api.ErrFull {
		t.Errorf("Append = %d, %d", n, e)
	}
	has(t, l, 1, 1, 1, r)
	answers(t, "Remove", d.Remove("x0"), api.OK)
	appends(t, l, "a")
	has(t, l, 1, 1, 2, r, "a")
}

// P4.3: where the Roll has room and the record has none, the record alone is refused.
func TestAppendRefusedBehindRoll(t *testing.T) {
	r := strings.Repeat("r", 60)
	d := made(t, len(file(1, r))+len(file(2, "a")), nil)
	l := opened(t, d, 64)
	appends(t, l, r)
	for range 2 {
		if n, e := l.Append([]byte("ab")); n != 0 || e != api.ErrRoom {
			t.Errorf("Append = %d, %d", n, e)
		}
		has(t, l, 1, 1, 2, r)
		stands(t, d, files{"log.1": file(1, r), "log.2": file(2)})
	}
	appends(t, l, "a")
	has(t, l, 1, 1, 2, r, "a")
	stands(t, d, files{"log.1": file(1, r), "log.2": file(2, "a")})
}

// P4.3: Sync.
func TestSync(t *testing.T) {
	d := made(t, 1000, nil)
	l := opened(t, d, 100)
	answers(t, "Sync of no records", l.Sync(), api.OK)
	has(t, l, 1, 0, 1)
	appends(t, l, "a", "b")
	answers(t, "Sync", l.Sync(), api.OK)
	has(t, l, 1, 2, 1, "a", "b")
	appends(t, l, "c")
	has(t, l, 1, 2, 1, "a", "b", "c")
	if _, synced := look(t, d); synced["log.1"] != len(file(1, "a", "b")) {
		t.Error("synced:", synced)
	}
	answers(t, "Sync", l.Sync(), api.OK)
	answers(t, "Sync again", l.Sync(), api.OK)
	has(t, again(t, d, 100, 0), 1, 3, 1, "a", "b", "c")
}

// P4.3: Roll.
func TestRoll(t *testing.T) {
	d := made(t, 1000, nil)
	l := opened(t, d, 100)
	appends(t, l, "a", "b")
	answers(t, "Roll", l.Roll(), api.OK)
	has(t, l, 1, 2, 2, "a", "b")
	stands(t, d, files{"log.1": file(1, "a", "b"), "log.2": file(3)})
	answers(t, "Roll of a segment without a record", l.Roll(), api.OK)
	has(t, l, 1, 2, 3, "a", "b")
	appends(t, l, "c")
	has(t, l, 1, 2, 3, "a", "b", "c")
	want := files{"log.1": file(1, "a", "b"), "log.2": file(3), "log.3": file(3, "c")}
	stands(t, d, want)
	_, synced := look(t, d)
	if synced["log.1"] != len(want["log.1"]) || synced["log.2"] != len(want["log.2"]) || synced["log.3"] != len(file(3)) {
		t.Error("synced:", synced)
	}
	has(t, again(t, d, 100, 0), 1, 2, 3, "a", "b")
}

// P4.3: what Roll refuses; what is ahead is sure all the same.
func TestRollRefused(t *testing.T) {
	for room := range len(head(2)) {
		d := made(t, len(file(1, "a"))+room, nil)
		l := opened(t, d, 64)
		appends(t, l, "a")
		answers(t, "Roll on a full disk", l.Roll(), api.ErrRoom)
		has(t, l, 1, 1, 1, "a")
		stands(t, d, files{"log.1": file(1, "a")})
		has(t, again(t, d, 64, 0), 1, 1, 1, "a")
	}
	d := made(t, 1000, files{"log.3": file(1)})
	l := opened(t, d, 64)
	appends(t, l, "a")
	answers(t, "Create", d.Create("log.4"), api.OK)
	answers(t, "Roll onto a file", l.Roll(), api.ErrClash)
	has(t, l, 1, 1, 1, "a")
	stands(t, d, files{"log.3": file(1, "a"), "log.4": ""})
	answers(t, "Remove", d.Remove("log.4"), api.OK)
	for i := range api.MaxFiles - 1 {
		answers(t, "Create", d.Create("x"+strconv.Itoa(i)), api.OK)
	}
	appends(t, l, "b")
	answers(t, "Roll on a disk of MaxFiles", l.Roll(), api.ErrFull)
	has(t, l, 1, 2, 1, "a", "b")
	has(t, again(t, d, 64, 0), 1, 2, 1, "a", "b")
}

// P4.5: no segment is begun that would not be known again: none of 16 digits, none behind MaxNum.
func TestRollNoMore(t *testing.T) {
	d := made(t, 1000, files{"log.999999999999999": file(1)})
	l := opened(t, d, 64)
	appends(t, l, "a")
	answers(t, "Roll behind the last number", l.Roll(), api.ErrFull)
	has(t, l, 1, 1, 1, "a")
	stands(t, d, files{"log.999999999999999": file(1, "a")})

	d = made(t, 1000, files{"log.1": file(api.MaxNum - 1)})
	l = opened(t, d, 64)
	appends(t, l, "a")
	answers(t, "Roll", l.Roll(), api.OK)
	appends(t, l, "b")
	answers(t, "Roll behind the last record", l.Roll(), api.ErrFull)
	has(t, again(t, d, 64, 0), api.MaxNum-1, api.MaxNum, 2, "a", "b")
	answers(t, "Create", d.Create("log.3"), api.OK)
	if l, e := wal.Open(d, "log", 64); l != nil || e != api.ErrFull { // nor is one made good
		t.Errorf("Open = %v, %d", l, e)
	}
}

// pruned is a log of the segments 1: a b, 2: none, 3: c, 4: d e, 5: none.
func pruned(t *testing.T) (*disk.Disk, *wal.Log) {
	t.Helper()
	d := made(t, 1000, nil)
	l := opened(t, d, 64)
	for _, records := range [][]string{{"a", "b"}, nil, {"c"}, {"d", "e"}} {
		appends(t, l, records...)
		answers(t, "Roll", l.Roll(), api.OK)
	}
	has(t, l, 1, 5, 5, "a", "b", "c", "d", "e")
	return d, l
}

// P4.3: Prune.
func TestPrune(t *testing.T) {
	for _, x := range []struct {
		upto     int64
		first    int64
		segments int
		e        api.Errno
	}{
		{math.MinInt64, 1, 5, api.OK},
		{-1, 1, 5, api.OK},
		{0, 1, 5, api.OK},
		{1, 1, 5, api.OK},
		{2, 3, 3, api.OK}, // also the one without a record
		{3, 4, 2, api.OK},
		{4, 4, 2, api.OK},
		{5, 6, 1, api.OK}, // the last one stays
		{6, 1, 5, api.ErrArg},
		{math.MaxInt64, 1, 5, api.ErrArg},
	} {
		d, l := pruned(t)
		answers(t, "Prune", l.Prune(x.upto), x.e)
		records := []string{"a", "b", "c", "d", "e"}[x.first-1:]
		has(t, l, x.first, 5, x.segments, records...)
		if n := len(d.List()); n != x.segments {
			t.Errorf("Prune(%d) leaves %d files", x.upto, n)
		}
		answers(t, "Prune again", l.Prune(x.upto), x.e)
		appends(t, l, "f", "g")
		has(t, l, x.first, 5, x.segments, append(records, "f", "g")...)
		answers(t, "Sync", l.Sync(), api.OK)
		has(t, again(t, d, 64, 0), x.first, 7, x.segments, append(records, "f", "g")...)
		if t.Failed() {
			t.Fatalf("Prune(%d)", x.upto)
		}
	}
}

// P4.3: Prune of logs without records, and of one segment.
func TestPruneFew(t *testing.T) {
	d := made(t, 1000, nil)
	l := opened(t, d, 64)
	answers(t, "Prune of nothing", l.Prune(0), api.OK)
	answers(t, "Prune above Last", l.Prune(1), api.ErrArg)
	answers(t, "Roll", l.Roll(), api.OK)
	answers(t, "Prune below", l.Prune(-1), api.OK)
	has(t, l, 1, 0, 2)
	answers(t, "Prune", l.Prune(0), api.OK) // the first one has no record, and the next one begins with 1
	has(t, l, 1, 0, 1)
	stands(t, d, files{"log.2": file(1)})
	appends(t, l, "a")
	answers(t, "Prune of the last one", l.Prune(1), api.OK)
	has(t, l, 1, 0, 1, "a")
	answers(t, "Sync", l.Sync(), api.OK)
	has(t, again(t, d, 64, 0), 1, 1, 1, "a")
}

// P4.3: where a file can't be removed, the segment stays; those ahead of it are gone.
func TestPruneRefused(t *testing.T) {
	d, l := pruned(t)
	answers(t, "Remove", d.Remove("log.3"), api.OK)
	answers(t, "Prune", l.Prune(5), api.ErrNone)
	has(t, l, 3, 5, 3, "c", "d", "e")
}

// P4.4: records over many segments.
func TestGet(t *testing.T) {
	d := made(t, api.MaxRoom, nil)
	l := opened(t, d, 64)
	var records []string
	for i := range 150 {
		records = append(records, strings.Repeat(strconv.Itoa(i), i%9))
	}
	appends(t, l, records...)
	has(t, l, 1, l.Synced(), len(d.List()), records...)
	if l.Segments() < 10 {
		t.Error("too few segments to look through:", l.Segments())
	}
	m := opened(t, d, 1000)
	has(t, m, 1, 150, l.Segments(), records...)
}

// P4.4, R3: All tells what was there when it was asked for, may stop, and be done again.
func TestAll(t *testing.T) {
	_, l := pruned(t)
	all := l.All()
	appends(t, l, "f")
	answers(t, "Prune", l.Prune(4), api.OK)
	appends(t, l, "g")
	later := l.All()
	for range 2 {
		var then, now []string
		for n, b := range all {
			then = append(then, strconv.FormatInt(n, 10)+":"+string(b))
			clear(b)
		}
		for n, b := range later {
			now = append(now, strconv.FormatInt(n, 10)+":"+string(b))
			clear(b)
		}
		if !slices.Equal(then, numbered(1, "a", "b", "c", "d", "e")) || !slices.Equal(now, numbered(4, "d", "e", "f", "g")) {
			t.Errorf("All: %q, and later %q", then, now)
		}
	}
	one := opened(t, made(t, 1000, nil), 1000)
	appends(t, one, "a", "b", "c", "d", "e")
	for stop := range 7 {
		for _, all := range []iter.Seq2[int64, []byte]{all, one.All()} {
			n := 0
			for range all {
				if n == stop {
					break
				}
				n++
			}
			if n != min(stop, 5) {
				t.Errorf("%d records up to %d", n, stop)
			}
		}
	}
	has(t, l, 4, 5, 2, "d", "e", "f", "g")
	for n, b := range later { // the log goes on while it is told
		if n == 4 {
			appends(t, l, "h")
			answers(t, "Roll", l.Roll(), api.OK)
			answers(t, "Prune", l.Prune(8), api.OK)
		}
		if want := "defg"[n-4 : n-3]; string(b) != want {
			t.Errorf("record %d is %q, want %q", n, b, want)
		}
	}
	has(t, l, 9, 8, 1)
}

// R3: what a log was handed and what it answered are nobody else's.
func TestLogKeepsOff(t *testing.T) {
	d := made(t, 1000, nil)
	l := opened(t, d, 64)
	b := []byte("record--")
	_, e := l.Append(b[:6])
	answers(t, "Append", e, api.OK)
	if string(b) != "record--" {
		t.Errorf("what was handed in is written to: %q", b)
	}
	clear(b)
	has(t, l, 1, 0, 1, "record")
	answers(t, "Sync", l.Sync(), api.OK)
	for _, l := range []*wal.Log{l, again(t, d, 64, 0)} {
		g, _ := l.Get(1)
		clear(g)
		_ = append(g, "and more"...)
		for _, g := range l.All() {
			clear(g)
			_ = append(g, "and more"...)
		}
		if g, e := l.Get(1); string(g) != "record" || e != api.OK {
			t.Errorf("what was answered is what is kept: %q", g)
		}
		stands(t, d, files{"log.1": file(1, "record")})
	}
	l = opened(t, d, 64)
	appends(t, l, "more")
	has(t, l, 1, 1, 1, "record", "more")
	stands(t, d, files{"log.1": file(1, "record", "more")})
}

// P4.4: while the disk is off, nothing is written, and what is known is told; what a crash did Open alone tells.
func TestOff(t *testing.T) {
	d, l := pruned(t)
	appends(t, l, "f")
	answers(t, "Crash", d.Crash(0), api.OK)
	left, _ := look(t, d)
	for range 2 {
		if n, e := l.Append([]byte("g")); n != 0 || e != api.ErrOff {
			t.Errorf("Append = %d, %d", n, e)
		}
		if n, e := l.Append(make([]byte, api.MaxEntry+1)); n != 0 || e != api.ErrLong { // named ahead of the disk's
			t.Errorf("Append of too much = %d, %d", n, e)
		}
		answers(t, "Sync", l.Sync(), api.ErrOff)
		answers(t, "Roll", l.Roll(), api.ErrOff)
		answers(t, "Prune", l.Prune(3), api.ErrOff)
		answers(t, "Prune above Last", l.Prune(7), api.ErrArg)
		answers(t, "Prune of nothing", l.Prune(1), api.OK)
		has(t, l, 1, 5, 5, "a", "b", "c", "d", "e", "f")
		stands(t, d, left)
	}
	answers(t, "Restart", d.Restart(), api.OK)
	has(t, l, 1, 5, 5, "a", "b", "c", "d", "e", "f")
	has(t, opened(t, d, 64), 1, 5, 5, "a", "b", "c", "d", "e")

	off := made(t, 500, nil)
	l = opened(t, off, 64)
	appends(t, l, strings.Repeat("x", 60))
	answers(t, "Crash", off.Crash(0), api.OK)
	if n, e := l.Append([]byte("a")); n != 0 || e != api.ErrOff { // of Roll's Sync
		t.Errorf("Append to a full segment = %d, %d", n, e)
	}
	has(t, l, 1, 0, 1, strings.Repeat("x", 60))
}

// P4.4: a log that no call made.
func TestLogOfNoCall(t *testing.T) {
	var none *wal.Log
	for _, l := range []*wal.Log{none, {}, new(wal.Log)} {
		for range 2 {
			for _, b := range [][]byte{nil, []byte("a"), make([]byte, api.MaxEntry+1)} {
				if n, e := l.Append(b); n != 0 || e != api.ErrMade {
					t.Errorf("Append = %d, %d", n, e)
				}
			}
			answers(t, "Sync", l.Sync(), api.ErrMade)
			answers(t, "Roll", l.Roll(), api.ErrMade)
			for _, n := range []int64{0, 1, -1, math.MaxInt64, math.MinInt64} {
				answers(t, "Prune", l.Prune(n), api.ErrMade)
				if b, e := l.Get(n); b != nil || e != api.ErrMade {
					t.Errorf("Get(%d) = %q, %d", n, b, e)
				}
			}
			if l.First() != 0 || l.Last() != 0 || l.Synced() != 0 || l.Segments() != 0 {
				t.Error("it tells numbers:", l.First(), l.Last(), l.Synced(), l.Segments())
			}
			for n, b := range l.All() {
				t.Errorf("it tells a record: %d, %q", n, b)
			}
		}
	}
}

// THE BOUND: calls take what they need for a record, and not what the log has.
func TestLogNearLinear(t *testing.T) {
	d := made(t, api.MaxRoom, nil)
	l := opened(t, d, api.MaxRoom)
	const many = 1 << 15
	m := allocated(func() {
		for i := range many {
			r := bytes.Repeat([]byte{byte(i)}, 16)
			if n, e := l.Append(r); n != int64(i+1) || e != api.OK {
				t.Fatalf("Append = %d, %d", n, e)
			}
			answers(t, "Sync", l.Sync(), api.OK)
			if b, e := l.Get(int64(i/2 + 1)); len(b) != 16 || e != api.OK {
				t.Fatalf("Get = %q, %d", b, e)
			}
		}
	})
	if m > many<<10 {
		t.Errorf("%d bytes of memory", m)
	}
}
