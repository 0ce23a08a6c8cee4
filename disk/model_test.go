package disk_test

import (
	"maps"
	"math/rand"
	"slices"
	"testing"

	"bulla/api"
	"bulla/disk"
)

// model is a disk told as plainly as can be: files are values, texts are put together anew.
type model struct {
	files map[string]entry
	room  int
	off   bool
}

func (m *model) list() []entry {
	var l []entry
	for _, name := range slices.Sorted(maps.Keys(m.files)) {
		l = append(l, m.files[name])
	}
	return l
}

func (m *model) used() int {
	n := 0
	for _, f := range m.files {
		n += len(f.text)
	}
	return n
}

func (m *model) create(name string) api.Errno {
	switch _, there := m.files[name]; {
	case m.off:
		return api.ErrOff
	case name == "":
		return api.ErrArg
	case there:
		return api.ErrClash
	case len(m.files) == api.MaxFiles:
		return api.ErrFull
	}
	m.files[name] = entry{name: name}
	return api.OK
}

func (m *model) write(name string, at int, b string, behind bool) api.Errno {
	f, there := m.files[name]
	if behind {
		at = len(f.text)
	}
	switch {
	case m.off:
		return api.ErrOff
	case !there:
		return api.ErrNone
	case at < 0 || at > len(f.text):
		return api.ErrArg
	}
	text := f.text[:at] + b
	if len(text) < len(f.text) {
		text += f.text[len(text):]
	}
	if m.used()-len(f.text)+len(text) > m.room {
		return api.ErrRoom
	}
	m.files[name] = entry{name, text, min(f.synced, at)}
	return api.OK
}

func (m *model) sync(name string) api.Errno {
	f, there := m.files[name]
	if e := m.refused(there, true); e != api.OK {
		return e
	}
	m.files[name] = entry{name, f.text, len(f.text)}
	return api.OK
}

func (m *model) rename(name, to string) api.Errno {
	f, there := m.files[name]
	if e := m.refused(there, to != ""); e != api.OK {
		return e
	}
	if name != to {
		m.files[to] = entry{to, f.text, f.synced}
		delete(m.files, name)
	}
	return api.OK
}

func (m *model) truncate(name string, n int) api.Errno {
	f, there := m.files[name]
	if e := m.refused(there, n >= 0 && n <= len(f.text)); e != api.OK {
		return e
	}
	m.files[name] = entry{name, f.text[:n], min(f.synced, n)}
	return api.OK
}

func (m *model) remove(name string) api.Errno {
	_, there := m.files[name]
	if e := m.refused(there, true); e != api.OK {
		return e
	}
	delete(m.files, name)
	return api.OK
}

func (m *model) refused(there, may bool) api.Errno {
	switch {
	case m.off:
		return api.ErrOff
	case !there:
		return api.ErrNone
	case !may:
		return api.ErrArg
	}
	return api.OK
}

func (m *model) crash(keep int) api.Errno {
	if m.off {
		return api.ErrOff
	}
	for _, f := range m.list() {
		for keep < 0 {
			keep = -keep
		}
		n := f.synced + keep%(len(f.text)-f.synced+1)
		m.files[f.name] = entry{f.name, f.text[:n], n}
	}
	m.off = true
	return api.OK
}

func (m *model) restart() api.Errno {
	if !m.off {
		return api.ErrArg
	}
	m.off = false
	return api.OK
}

// step does one thing to a disk and to its model: what it is called, and both answers.
func step(dice *rand.Rand, d *disk.Disk, m *model, keep int) (string, api.Errno, api.Errno) {
	names := []string{"a", "b", "c", "d", ""}
	name, to := names[dice.Intn(40)%5], names[dice.Intn(40)%5]
	at := dice.Intn(14) - 2
	b := "0123456789abcdefghij"[:dice.Intn(8)+at/9]
	if m.off && dice.Intn(2) == 0 {
		return "Restart", d.Restart(), m.restart()
	}
	switch dice.Intn(20) {
	case 0, 1, 2:
		return "Create", d.Create(name), m.create(name)
	case 3, 4, 5, 6, 7:
		return "Append", d.Append(name, []byte(b)), m.write(name, 0, b, true)
	case 8, 9, 10:
		return "Write", d.Write(name, at, []byte(b)), m.write(name, at, b, false)
	case 11, 12, 13:
		return "Sync", d.Sync(name), m.sync(name)
	case 14, 15:
		return "Rename", d.Rename(name, to), m.rename(name, to)
	case 16:
		return "Truncate", d.Truncate(name, at), m.truncate(name, at)
	case 17:
		return "Remove", d.Remove(name), m.remove(name)
	case 18:
		return "Crash", d.Crash(keep), m.crash(keep)
	}
	return "Restart", d.Restart(), m.restart()
}

// P3.1 to P3.6: whatever comes, a disk does as a plain model of it does.
func TestModel(t *testing.T) {
	for seed := range int64(200) {
		dice := rand.New(rand.NewSource(seed))
		room := dice.Intn(40)
		d, m := made(t, room), model{files: map[string]entry{}, room: room}
		for range 150 {
			was := look(t, d)
			off := d.Off()
			keep := dice.Intn(20) - 10
			what, got, want := step(dice, d, &m, keep)
			if got != want {
				t.Fatalf("seed %d: %s: %d, want %d", seed, what, got, want)
			}
			has(t, d, room, m.list()...)
			if d.Off() != m.off || d.Used() > room {
				t.Fatalf("seed %d: %s: Off %v, Used %d of %d", seed, what, d.Off(), d.Used(), room)
			}
			if got != api.OK && (d.Off() != off || !slices.Equal(was, look(t, d))) {
				t.Fatalf("seed %d: %s is refused, and has changed something", seed, what)
			}
			if what == "Crash" && got == api.OK {
				leavesBeginnings(t, was, look(t, d))
			}
			if dice.Intn(20) == 0 {
				d = d.Clone()
			}
		}
		if t.Failed() {
			t.Fatalf("seed %d", seed)
		}
	}
}

// P3.4: what a crash leaves of each file.
func leavesBeginnings(t *testing.T, was, left []entry) {
	t.Helper()
	if len(was) != len(left) {
		t.Fatalf("of %v a crash leaves %v", was, left)
	}
	for i, f := range left {
		w := was[i]
		if f.name != w.name || len(f.text) > len(w.text) || w.text[:len(f.text)] != f.text || len(f.text) < w.synced || f.synced != len(f.text) {
			t.Errorf("of %v a crash leaves %v", w, f)
		}
	}
}
