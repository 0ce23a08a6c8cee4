package wal_test

import (
	"math/rand"
	"reflect"
	"strconv"
	"testing"

	"bulla/api"
	"bulla/disk"
	"bulla/wal"
)

// part is a segment as a model tells it.
type part struct {
	number  int
	first   int
	records []string
}

func (p part) text() string {
	return file(uint64(p.first), p.records...)
}

// model is a log told as plainly as can be: its files are put together anew. Others on the disk have no bytes.
type model struct {
	parts  []part
	synced int // the last record that is sure
	sure   int // bytes of the last file that are synced
	room   int
	others int
	most   int
}

func (m *model) tail() *part {
	return &m.parts[len(m.parts)-1]
}

func (m *model) last() int {
	return m.tail().first + len(m.tail().records) - 1
}

func (m *model) used() int {
	n := 0
	for _, p := range m.parts {
		n += len(p.text())
	}
	return n
}

func (m *model) append(r string) (int, api.Errno) {
	if p := m.tail(); len(p.records) > 0 && len(p.text()) >= m.most {
		if e := m.roll(); e != api.OK {
			return 0, e
		}
	}
	if m.used()+len(frame(r)) > m.room {
		return 0, api.ErrRoom
	}
	m.tail().records = append(m.tail().records, r)
	return m.last(), api.OK
}

func (m *model) sync() {
	m.synced, m.sure = m.last(), len(m.tail().text())
}

func (m *model) roll() api.Errno {
	m.sync()
	next := part{number: m.tail().number + 1, first: m.last() + 1}
	if len(m.parts)+m.others == api.MaxFiles {
		return api.ErrFull
	}
	if m.used()+len(next.text()) > m.room {
		return api.ErrRoom
	}
	m.parts = append(m.parts, next)
	m.sync()
	return api.OK
}

func (m *model) prune(upto int) api.Errno {
	if upto > m.last() {
		return api.ErrArg
	}
	for len(m.parts) > 1 && m.parts[1].first <= upto+1 {
		m.parts = m.parts[1:]
	}
	return api.OK
}

// crash leaves the records that are whole in what is left of the last file.
func (m *model) crash(keep int) {
	p := m.tail()
	left := m.sure + keep%(len(p.text())-m.sure+1)
	for len(p.text()) > left {
		p.records = p.records[:len(p.records)-1]
	}
	m.sync()
}

// agrees tells where a log, or its disk, is not as the model says.
func (m *model) agrees(t *testing.T, d *disk.Disk, l *wal.Log) {
	t.Helper()
	var records []string
	want, sure := files{}, map[string]int{}
	for _, p := range m.parts {
		name := "log." + strconv.Itoa(p.number)
		records = append(records, p.records...)
		want[name], sure[name] = p.text(), len(p.text())
	}
	sure["log."+strconv.Itoa(m.tail().number)] = m.sure
	for i := range m.others {
		want["x"+strconv.Itoa(i)], sure["x"+strconv.Itoa(i)] = "", 0
	}
	has(t, l, int64(m.parts[0].first), int64(m.synced), len(m.parts), records...)
	stands(t, d, want)
	if _, got := look(t, d); !reflect.DeepEqual(got, sure) {
		t.Errorf("synced is %v, want %v", got, sure)
	}
}

// step does one thing to a log and to its model: both answers.
func step(t *testing.T, dice *rand.Rand, d *disk.Disk, l **wal.Log, m *model) (string, api.Errno, api.Errno) {
	t.Helper()
	switch dice.Intn(20) {
	case 0:
		return "Roll", (*l).Roll(), m.roll()
	case 1:
		upto := m.parts[0].first + dice.Intn(m.last()-m.parts[0].first+4) - 1
		return "Prune", (*l).Prune(int64(upto)), m.prune(upto)
	case 2, 3, 4:
		m.sync()
		return "Sync", (*l).Sync(), api.OK
	case 5, 6:
		keep := dice.Intn(100)
		*l = again(t, d, m.most, keep)
		m.crash(keep)
		return "Crash", api.OK, api.OK
	}
	r := make([]byte, dice.Intn(30)*dice.Intn(6)/2)
	dice.Read(r)
	n, e := (*l).Append(r)
	k, f := m.append(string(r))
	if n != int64(k) {
		t.Errorf("Append = %d, want %d", n, k)
	}
	return "Append", e, f
}

// P4.2 to P4.5: whatever comes, a log and its files are as a plain model of them says.
func TestModel(t *testing.T) {
	for seed := range int64(150) {
		dice := rand.New(rand.NewSource(seed))
		m := model{parts: []part{{number: 1, first: 1}}, most: api.MinSegment + dice.Intn(200), room: 100 + dice.Intn(1500)}
		if seed%3 == 0 {
			m.others = api.MaxFiles - 4
		}
		with := files{}
		for i := range m.others {
			with["x"+strconv.Itoa(i)] = ""
		}
		d := made(t, m.room, with)
		l := opened(t, d, m.most)
		m.sync()
		for range 100 {
			what, got, want := step(t, dice, d, &l, &m)
			answers(t, what, got, want)
			m.agrees(t, d, l)
			if t.Failed() {
				t.Fatalf("seed %d: %s", seed, what)
			}
		}
	}
}
