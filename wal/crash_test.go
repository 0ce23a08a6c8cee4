package wal_test

import (
	"math/rand"
	"slices"
	"strings"
	"testing"

	"bulla/api"
	"bulla/disk"
	"bulla/wal"
)

// P4.5: behind a crash that leaves so much of what was not synced, a log has its first records up to some number, at or above Synced.
func leavesFirst(t *testing.T, d *disk.Disk, l *wal.Log, most, keep int) *wal.Log {
	t.Helper()
	first, synced, was := l.First(), l.Synced(), told(l)
	m := again(t, d, most, keep)
	left := told(m)
	if m.First() != first || m.Last() < synced || m.Last() > l.Last() || m.Synced() != m.Last() || !slices.Equal(left, was[:len(left)]) {
		t.Fatalf("of %q, sure up to %d, a crash leaves %q from %d, sure up to %d", short(was), synced, short(left), m.First(), m.Synced())
	}
	stood, _ := look(t, d)
	if o := opened(t, d, most); !slices.Equal(told(o), left) || o.First() != first || o.Segments() != m.Segments() {
		t.Errorf("opened again it has %q, and not %q", short(told(o)), short(left))
	}
	stands(t, d, stood)
	return m
}

// P4.5: whatever beginning of what was not synced a crash leaves.
func TestCrash(t *testing.T) {
	records := []string{"some", "", "x", strings.Repeat("y", 130), "z", "more", "\x00\x00\x00\x00\x00"}
	for sure := range len(records) + 1 {
		for keep := 0; ; keep++ {
			d := made(t, 1000, nil)
			l := opened(t, d, 1000)
			appends(t, l, records[:sure]...)
			answers(t, "Sync", l.Sync(), api.OK)
			appends(t, l, records[sure:]...)
			loose := len(file(1, records...)) - len(file(1, records[:sure]...))
			m := leavesFirst(t, d, l, 1000, keep)
			whole := sure // records that are whole in what is left
			for whole < len(records) && len(file(1, records[:whole+1]...)) <= len(file(1, records[:sure]...))+keep {
				whole++
			}
			has(t, m, 1, int64(whole), 1, records[:whole]...)
			if keep == loose {
				break
			}
		}
	}
}

// P4.5: a crash in each state of a log with segments.
func TestCrashSegments(t *testing.T) {
	for steps := range 40 {
		for _, keep := range []int{0, 1, 2, 3, 5, 7, 8, 13, 20, 1000, -4} {
			d := made(t, 2000, nil)
			l := opened(t, d, 64)
			for i := range steps {
				switch {
				case i%11 == 7:
					answers(t, "Roll", l.Roll(), api.OK)
				case i%13 == 9:
					answers(t, "Prune", l.Prune(l.Last()-3), api.OK)
				case i%5 == 4:
					answers(t, "Sync", l.Sync(), api.OK)
				default:
					appends(t, l, strings.Repeat("r", i%8*3))
				}
			}
			m := leavesFirst(t, d, l, 64, keep)
			appends(t, m, "more", "and more")
			leavesFirst(t, d, m, 64, keep/2)
		}
	}
}

// damaged is a disk with some bits of a file turned, from bit at on, of a byte the lowest one first.
func damaged(t *testing.T, d *disk.Disk, name string, at int, bits uint32) *disk.Disk {
	t.Helper()
	d = d.Clone()
	b, e := d.Get(name)
	answers(t, "Get", e, api.OK)
	for i := range 32 {
		if bits>>i&1 == 1 {
			b[(at+i)/8] ^= 1 << ((at + i) % 8)
		}
	}
	answers(t, "Write", d.Write(name, 0, b), api.OK)
	answers(t, "Sync", d.Sync(name), api.OK)
	return d
}

// P4.6: bits are turned within 32 ones of a record of the last segment.
func TestDamage(t *testing.T) {
	records := []string{"ahead", "a", "", "some bytes", strings.Repeat("\x00", 40), strings.Repeat("\xff", 130), "behind", ""}
	d := made(t, 1000, nil)
	l := opened(t, d, 1000)
	appends(t, l, records[:1]...)
	answers(t, "Roll", l.Roll(), api.OK)
	appends(t, l, records[1:]...)
	answers(t, "Sync", l.Sync(), api.OK)
	dice := rand.New(rand.NewSource(3))
	for i := 1; i < len(records); i++ {
		begin := len(file(2, records[1:i]...)) * 8
		end := begin + len(frame(records[i]))*8
		begin += 8 // the length, of a byte
		if len(records[i]) >= 128 {
			begin += 8
		}
		for at := begin; at < end; at++ {
			room := min(32, end-at)
			for _, bits := range []uint32{1, 3, 1<<31 | 1, 0x80000003, 0xFFFFFFFF, 0xEDB88321, dice.Uint32() | 1} {
				bits &= 1<<room - 1
				m := opened(t, damaged(t, d, "log.2", at, bits), 1000)
				if n := m.Last(); n != int64(i) || m.First() != 1 || !slices.Equal(told(m), numbered(1, records[:i]...)) {
					t.Fatalf("record %d, bits %x from %d on: %q is left", i+1, bits, at-begin, told(m))
				}
			}
		}
	}
}
