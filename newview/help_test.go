package newview_test

import (
	"bytes"
	"math"
	"reflect"
	"runtime"
	"slices"
	"strconv"
	"sync"
	"testing"

	"bulla/api"
	"bulla/auth"
	"bulla/ideal"
	"bulla/message"
	"bulla/newview"
	"bulla/point"
	"bulla/prepared"
	"bulla/request"
)

const most = 1 << 53

// cluster is how many brokers there are and say something, told one by one.
type cluster struct{ f, brokers, big, small int }

func clusters() []cluster {
	return []cluster{{1, 4, 3, 2}, {2, 7, 5, 3}, {3, 10, 7, 4}, {4, 13, 9, 5}}
}

func clusterOf(f int) (cluster, bool) {
	for _, c := range clusters() {
		if c.f == f {
			return c, true
		}
	}
	return cluster{}, false
}

// wrongFaults are numbers of faulty brokers that may not be.
func wrongFaults() []int {
	return []int{0, -1, -2, -4, 5, 6, 13, math.MinInt, math.MinInt + 1, math.MaxInt, 1<<8 + 1, 1<<32 + 1, 1<<62 + 1}
}

// wrongViews are views to which nobody changes.
func wrongViews() []int64 {
	return []int64{0, -1, -2, -4, most + 1, most + 2, 1 << 62, math.MinInt64, math.MaxInt64}
}

// wrongFroms are numbers of none of so many brokers.
func wrongFroms(brokers int) []int {
	return []int{-1, -2, -13, brokers, brokers + 1, 13, 14, 20, 21, 256, 1 << 32, math.MinInt, math.MaxInt}
}

// primary is told of views that may not be, too.
func (c cluster) primary(view int64) int {
	n := int64(c.brokers)
	return int((view%n + n) % n)
}

// upTo are the numbers from 0 on, so many.
func upTo(n int) []int {
	var l []int
	for i := range n {
		l = append(l, i)
	}
	return l
}

// house is a table and a ledger.
type house struct {
	x *ideal.Table
	l *ideal.Ledger
}

func newHouse() house {
	return house{ideal.NewTable(), ideal.NewLedger()}
}

func (h house) clone() house {
	return house{h.x.Clone(), h.l.Clone()}
}

// made tells whether a call made both; what is full is not cloned for it.
func (h house) made() bool {
	return (h.x.Len() > 0 || h.x.Clone() != nil) && (h.l.Len() > 0 || h.l.Clone() != nil)
}

// sign is a key's signature over a vote, also over one that auth does not make; of a key that there is not, what it would be.
func (h house) sign(key, kind int, view, seq int64, d api.Digest) api.Sign {
	return h.signText(key, auth.VoteBytes(kind, view, seq, d))
}

func (h house) signText(key int, b []byte) api.Sign {
	s := api.Sign{Key: key, Digest: h.x.Sum(b)}
	h.l.Sign(s.Key, s.Digest)
	return s
}

func (h house) learn(b api.Batch) api.Digest {
	return h.x.Sum(request.PutBatch(nil, b))
}

// batch is one of so many requests, all sealed.
func (h house) batch(many int) api.Batch {
	var b api.Batch
	for _, x := range asked()[:many] {
		s, e := request.Seal(h.x, h.l, x)
		if e != api.OK {
			panic(e)
		}
		b = append(b, s)
	}
	return b
}

// asked are requests of several clients, one of them with two.
func asked() []api.Request {
	put := api.Op{Kind: api.OpPublish, Topic: "t", Records: []api.Record{{9}, {}, {7, 8}}}
	return []api.Request{
		{Client: 2, Time: 7, Op: put},
		{Client: 0, Time: 1, Op: api.Op{Kind: api.OpCreate, Topic: "größe"}},
		{Client: 2, Time: most, Op: api.Op{Kind: api.OpCommit, Topic: "t", Group: "g", Offset: 9}},
		{Client: 7, Time: 7, Op: put},
	}
}

// cert is a checkpoint's certificate, signed by these keys.
func (h house) cert(seq int64, d api.Digest, keys ...int) api.Cert {
	c := api.Cert{Seq: seq, Digest: d}
	for _, k := range keys {
		c.Signs = append(c.Signs, h.sign(k, 6, 0, seq, d))
	}
	return c
}

// at is a certificate that is valid; of Seq 0 the zero one.
func (h house) at(c cluster, seq int64) api.Cert {
	if seq == 0 {
		return api.Cert{}
	}
	return h.cert(seq, api.Digest(1+seq%7), upTo(c.big)...)
}

// ready is what shows that a batch was prepared, by as many as must be.
func (h house) ready(c cluster, view, seq int64, b api.Batch) api.Prepared {
	p := api.Prepared{View: view, Seq: seq, Digest: h.learn(b), Batch: b}
	p.First = h.sign(c.primary(view), 2, view, seq, p.Digest)
	for k := 0; len(p.Signs) < 2*c.f; k++ {
		if k != c.primary(view) {
			p.Signs = append(p.Signs, h.sign(k, 3, view, seq, p.Digest))
		}
	}
	return p
}

// change is a view-change, signed by its broker; also one that may not be, over what it would be.
func (h house) change(view int64, from int, cert api.Cert, above ...api.Prepared) api.Change {
	return h.signed(api.Change{View: view, From: from, Cert: cert, Above: above})
}

// signed is a view-change signed anew.
func (h house) signed(c api.Change) api.Change {
	c.Sign = h.signText(c.From, signedOf(auth.Change(c)))
	return c
}

// sealed is a message signed anew, by its From.
func (h house) sealed(m api.Msg) api.Msg {
	m.Sign = h.signText(m.From, signedOf(m))
	return m
}

// signedOf is what of a message is signed; of one that may not be, something.
func signedOf(m api.Msg) []byte {
	b, e := auth.Content(m)
	if e != api.OK {
		return []byte("what may not be")
	}
	return b
}

// entry is one that a key has signed.
func (h house) entry(key int, view, seq int64, b api.Batch) api.Entry {
	return api.Entry{View: view, Seq: seq, Batch: b, Sign: h.sign(key, 2, view, seq, h.learn(b))}
}

// plain are view-changes of these brokers, that say nothing.
func (h house) plain(view int64, froms ...int) []api.Change {
	var l []api.Change
	for _, k := range froms {
		l = append(l, h.change(view, k, api.Cert{}))
	}
	return l
}

// rich are valid view-changes of all brokers: of unlike checkpoints up to 8, with numbers up to 13 but for 10 and 12, some of them told by several.
func (h house) rich(c cluster, view int64) []api.Change {
	var l []api.Change
	for k := range c.brokers {
		x := api.Change{View: view, From: k, Cert: h.at(c, int64(k%3*4))}
		for _, seq := range []int64{7, 9, 11, 13} {
			if low := x.Cert.Seq; seq > low && seq <= low+8 && (k+int(seq))%4 > 0 {
				x.Above = append(x.Above, h.ready(c, max(0, view-1-int64(k)%3), seq, h.batch(1+(k+int(seq))%3)))
			}
		}
		l = append(l, h.signed(x))
	}
	return l
}

// answer is what Select answers.
type answer struct {
	Cert    api.Cert
	Entries []api.Entry
	Err     api.Errno
}

// chosen is what Select has to answer, in the chapter's words, number by number.
func chosen(f int, view int64, l []api.Change) answer {
	c, is := clusterOf(f)
	if !is {
		return answer{Err: 120}
	}
	bad := view < 1 || view > most
	for i, x := range l {
		bad = bad || x.From < 0 || x.From > c.brokers-1 || i > 0 && l[i-1].From >= x.From
	}
	if bad {
		return answer{Err: 1}
	}
	if len(l) < c.big {
		return answer{Err: 160}
	}
	cert := l[len(l)-1].Cert
	for _, x := range slices.Backward(l) {
		if x.Cert.Seq >= cert.Seq {
			cert = x.Cert
		}
	}
	a := answer{Cert: cert}
	for seq := cert.Seq; cert.Seq >= 0 && len(a.Entries) < 8 && seq < math.MaxInt64; {
		seq++
		b, goesOn := lastOf(l, seq)
		if !goesOn {
			break
		}
		a.Entries = append(a.Entries, api.Entry{View: view, Seq: seq, Batch: b})
	}
	return a
}

// lastOf is the batch that was prepared last at a number, and whether anything is told from there on.
func lastOf(l []api.Change, seq int64) (api.Batch, bool) {
	goesOn := false
	var best []api.Prepared
	for _, x := range slices.Backward(l) {
		for _, p := range slices.Backward(x.Above) {
			goesOn = goesOn || p.Seq >= seq
			if p.Seq == seq && (len(best) == 0 || p.View >= best[0].View) {
				best = []api.Prepared{p}
			}
		}
	}
	if len(best) == 0 {
		return nil, goesOn
	}
	return best[0].Batch, goesOn
}

// choose holds Select against what it has to answer, and against that it writes to nothing.
func choose(t *testing.T, f int, view int64, l ...api.Change) answer {
	t.Helper()
	first, want := normal(l), chosen(f, view, l)
	cert, entries, e := newview.Select(f, view, l...)
	got := answer{cert, entries, e}
	if !same(got, want) {
		t.Fatalf("Select(%d, %d, %+v) = %+v, want %+v", f, view, l, got, want)
	}
	if !same(l, first) {
		t.Fatalf("Select has written to %+v", first)
	}
	noGaps(t, cert, entries)
	return got
}

// noGaps is P16.7.
func noGaps(t *testing.T, c api.Cert, l []api.Entry) {
	t.Helper()
	for i, x := range l {
		if x.Seq != c.Seq+1+int64(i) {
			t.Fatalf("above %d there is %d in the place %d", c.Seq, x.Seq, i)
		}
	}
}

// right tells whether a view-change is valid, in the chapter's words, one behind the other.
func (h house) right(f int, view int64, x api.Change) bool {
	c, is := clusterOf(f)
	return h.made() && is &&
		x.View == view && x.From <= c.brokers-1 &&
		auth.Valid(h.x, h.l, auth.Change(x)) &&
		point.Valid(h.x, h.l, f, x.Cert) && x.Cert.Seq%4 == 0 &&
		prepared.Above(h.x, h.l, f, view, x.Cert.Seq, x.Above...)
}

// valid holds Valid against what it has to say, and against that it changes nothing.
func (h house) valid(t *testing.T, want bool, f int, view int64, x api.Change) {
	t.Helper()
	first, sums, signs := normal(x), h.x.Len(), h.l.Len()
	for range 2 {
		if is := newview.Valid(h.x, h.l, f, view, x); is != want || h.right(f, view, x) != want {
			t.Fatalf("Valid(%d, %d, %+v) = %v", f, view, x, is)
		}
	}
	if !same(x, first) || h.x.Len() != sums || h.l.Len() != signs {
		t.Fatalf("Valid(%d, %d, %+v) has changed what it was handed", f, view, first)
	}
}

// should is what Make has to answer, made of what auth answers, over table and ledger of a house that it changes.
func (h house) should(f int, view int64, l []api.Change) (api.Msg, api.Errno) {
	if !h.made() {
		return api.Msg{}, 2
	}
	if a := chosen(f, view, l); a.Err != 0 {
		return api.Msg{}, a.Err
	}
	for _, x := range l {
		if !h.right(f, view, x) {
			return api.Msg{}, 161
		}
	}
	c, _ := clusterOf(f)
	m := api.Msg{Kind: 8, From: c.primary(view), View: view, Changes: l[:c.big]}
	for _, x := range chosen(f, view, m.Changes).Entries {
		x, e := auth.Entry(h.x, h.l, m.From, x)
		if e != 0 {
			return api.Msg{}, e
		}
		m.Entries = append(m.Entries, x)
	}
	return auth.Seal(h.x, h.l, m)
}

// make holds Make against what it has to answer and to do; what it answers, Check has to take (P16.5).
func (h house) make(t *testing.T, f int, view int64, l ...api.Change) (api.Msg, api.Errno) {
	t.Helper()
	first, after := normal(l), h.clone()
	want, wantE := after.should(f, view, l)
	if wantE != 0 { // R2
		after = h.clone()
	}
	m, e := newview.Make(h.x, h.l, f, view, l...)
	if !same(m, want) || e != wantE {
		t.Fatalf("Make(%d, %d, %+v) = %+v, %d, want %+v, %d", f, view, l, m, e, want, wantE)
	}
	if !same(l, first) {
		t.Fatalf("Make has written to %+v", first)
	}
	h.sameAs(t, after)
	h.check(t, e == 0, f, m)
	return m, e
}

// sameAs tells where a table and a ledger hold something else.
func (h house) sameAs(t *testing.T, want house) {
	t.Helper()
	is := h.x.Len() == want.x.Len() && slices.Equal(h.l.Signs(), want.l.Signs())
	for d := range api.Digest(h.x.Len() + 1) {
		a, _ := h.x.Open(d)
		b, _ := want.x.Open(d)
		is = is && bytes.Equal(a, b)
	}
	if !is {
		t.Fatalf("%d texts and %d signatures, want %d and %d, or others", h.x.Len(), h.l.Len(), want.x.Len(), want.l.Len())
	}
}

// rightNew tells whether a new view is one, in the chapter's words, one behind the other.
func (h house) rightNew(f int, m api.Msg) bool {
	c, is := clusterOf(f)
	if m.Kind != 8 || !auth.Valid(h.x, h.l, m) || !is || m.From != c.primary(m.View) {
		return false
	}
	a := chosen(f, m.View, m.Changes)
	for _, x := range m.Changes {
		if !h.right(f, m.View, x) {
			return false
		}
	}
	if a.Err != 0 || len(m.Entries) != len(a.Entries) {
		return false
	}
	for i, x := range m.Entries {
		y := a.Entries[i]
		if x.View != y.View || x.Seq != y.Seq || !same(x.Batch, y.Batch) || !auth.ValidEntry(h.x, h.l, m.From, x) {
			return false
		}
	}
	return true
}

// check holds Check against what it has to answer, and against that it changes nothing.
func (h house) check(t *testing.T, want bool, f int, m api.Msg) {
	t.Helper()
	first, sums, signs := normal(m), h.x.Len(), h.l.Len()
	var cert api.Cert
	var entries []api.Entry
	if want {
		cert, entries = chosen(f, m.View, m.Changes).Cert, m.Entries
	}
	for range 2 {
		c, l, is := newview.Check(h.x, h.l, f, m)
		if is != want || h.rightNew(f, m) != want || !same(c, cert) || !same(l, entries) {
			t.Fatalf("Check(%d, %+v) = %+v, %+v, %v", f, m, c, l, is)
		}
	}
	if !same(m, first) || h.x.Len() != sums || h.l.Len() != signs {
		t.Fatalf("Check(%d, %+v) has changed what it was handed", f, first)
	}
}

// unmade are tables and ledgers of which no call made one or both, beside those of a house.
func (h house) unmade() []house {
	var l []house
	for _, x := range []*ideal.Table{nil, {}} {
		l = append(l, house{x, h.l}, house{x, ideal.NewLedger()})
		for _, y := range []*ideal.Ledger{nil, {}} {
			l = append(l, house{x, y})
		}
	}
	for _, y := range []*ideal.Ledger{nil, {}} {
		l = append(l, house{h.x, y}, house{ideal.NewTable(), y})
	}
	return l
}

const mostRoom = 64

// crowd is a table that has room for mostRoom texts more. What it knows begins as nothing does that is asked for here.
var crowd = sync.OnceValue(func() *ideal.Table {
	l := make([][]byte, api.MaxSums-mostRoom)
	for i := range l {
		l[i] = []byte("filler " + strconv.Itoa(i))
	}
	x, _ := ideal.From(l...)
	return x
})

func crowded() house {
	return house{crowd().Clone(), ideal.NewLedger()}
}

// leave fills a table, so that it has room for so many texts more.
func (h house) leave(room int) {
	for i := h.x.Len(); i < api.MaxSums-room; i++ {
		h.x.Sum([]byte("filler " + strconv.Itoa(i)))
	}
}

// normal is x with nil for each list that is empty, in memory of its own.
func normal[T any](x T) T {
	v := reflect.New(reflect.TypeOf(x)).Elem()
	v.Set(copied(reflect.ValueOf(x)))
	return v.Interface().(T)
}

func copied(v reflect.Value) reflect.Value {
	c := reflect.New(v.Type()).Elem()
	switch v.Kind() {
	case reflect.Struct:
		for i := range v.NumField() {
			c.Field(i).Set(copied(v.Field(i)))
		}
	case reflect.Slice:
		if v.Len() == 0 {
			return c
		}
		c.Set(reflect.MakeSlice(v.Type(), v.Len(), v.Len()))
		for i := range v.Len() {
			c.Index(i).Set(copied(v.Index(i)))
		}
	default:
		c.Set(v)
	}
	return c
}

// same tells whether two things are the same, field by field, without the program's help.
func same[T any](a, b T) bool {
	return reflect.DeepEqual(normal(a), normal(b))
}

// knobs are all the numbers, texts and lists within x, which is a pointer.
func knobs(x any) []reflect.Value {
	var l []reflect.Value
	var down func(v reflect.Value)
	down = func(v reflect.Value) {
		switch v.Kind() {
		case reflect.Struct:
			for i := range v.NumField() {
				down(v.Field(i))
			}
		case reflect.Slice:
			l = append(l, v)
			for i := range v.Len() {
				down(v.Index(i))
			}
		default:
			l = append(l, v)
		}
	}
	down(reflect.ValueOf(x).Elem())
	return l
}

// turns are what a knob is set to: numbers beside it and at edges, another text, lists that are longer or shorter by one.
func turns(v reflect.Value) []func() {
	var l []func()
	switch v.Kind() {
	case reflect.Int, reflect.Int64:
		l = append(l, func() { v.SetInt(v.Int() + 1) }, func() { v.SetInt(v.Int() - 1) })
		for _, n := range []int64{0, -1, most + 1} {
			l = append(l, func() { v.SetInt(n) })
		}
	case reflect.Uint8:
		l = append(l, func() { v.SetUint(v.Uint() ^ 1) })
	case reflect.String:
		l = append(l, func() { v.SetString(v.String() + "x") })
	case reflect.Slice:
		l = append(l, func() { v.Set(longer(v)) }, func() { v.SetZero() })
		if v.Len() > 0 {
			l = append(l, func() { v.Set(v.Slice(0, v.Len()-1)) }, func() { v.Set(v.Slice(1, v.Len())) })
		}
	}
	return l
}

// longer is a list with one more: the zero one, or the last one again.
func longer(v reflect.Value) reflect.Value {
	if v.Len() == 0 {
		return reflect.Append(v, reflect.Zero(v.Type().Elem()))
	}
	return reflect.Append(v.Slice3(0, v.Len(), v.Len()), copied(v.Index(v.Len()-1)))
}

// turned are all that come of x with one knob turned.
func turned[T any](x T) []T {
	var l []T
	first := normal(x)
	for i, v := range knobs(&first) {
		for j := range turns(v) {
			y := normal(x)
			turns(knobs(&y)[i])[j]()
			l = append(l, y)
		}
	}
	return l
}

// scribble writes to all that the owner of x, which is a pointer, can reach.
func scribble(x any) {
	scribbleValue(reflect.ValueOf(x).Elem())
}

func scribbleValue(v reflect.Value) {
	switch v.Kind() {
	case reflect.Struct:
		for i := range v.NumField() {
			scribbleValue(v.Field(i))
		}
	case reflect.Slice:
		v = v.Slice(0, v.Cap())
		for i := range v.Len() {
			scribbleValue(v.Index(i))
		}
	case reflect.Int, reflect.Int64:
		v.SetInt(v.Int() + 1)
	case reflect.Uint8:
		v.SetUint(v.Uint() + 1)
	case reflect.String:
		v.SetString("scribble")
	}
}

// roomy is x with room behind each list; and what tells whether that was written to.
func roomy[T any](x T) (T, func() bool) {
	c := normal(x)
	var rooms []reflect.Value
	for _, v := range slices.Backward(knobs(&c)) { // what stands in a list ahead of the list
		if v.Kind() != reflect.Slice {
			continue
		}
		n := v.Len()
		room := reflect.MakeSlice(v.Type(), n+3, n+3)
		reflect.Copy(room, v)
		rooms = append(rooms, room.Slice(n, n+3))
		v.Set(room.Slice(0, n))
	}
	return c, func() bool {
		return slices.ContainsFunc(rooms, func(room reflect.Value) bool {
			return !room.Index(0).IsZero() || !room.Index(1).IsZero() || !room.Index(2).IsZero()
		})
	}
}

// arrangements are all orders in which a list can stand.
func arrangements[T any](l []T) [][]T {
	if len(l) == 0 {
		return [][]T{nil}
	}
	var all [][]T
	for i, x := range l {
		for _, rest := range arrangements(slices.Concat(l[:i], l[i+1:])) {
			all = append(all, append([]T{x}, rest...))
		}
	}
	return all
}

// choices are all ways to take so many of a list, in its order.
func choices[T any](l []T, many int) [][]T {
	if many == 0 {
		return [][]T{nil}
	}
	var all [][]T
	for i := range len(l) - many + 1 {
		for _, rest := range choices(l[i+1:], many-1) {
			all = append(all, append([]T{l[i]}, rest...))
		}
	}
	return all
}

// allocated is how many bytes of memory do takes.
func allocated(do func()) uint64 {
	var a, b runtime.MemStats
	runtime.ReadMemStats(&a)
	do()
	runtime.ReadMemStats(&b)
	return b.TotalAlloc - a.TotalAlloc
}

// enough tells where something that a test is about has hardly happened.
func enough(t *testing.T, what string, many, least int) {
	t.Helper()
	if many < least {
		t.Errorf("%s: only %d times", what, many)
	}
}

// What the tests are made of has to be what it says.
func TestSamples(t *testing.T) {
	for _, c := range clusters() {
		if n := len(choices(upTo(c.brokers), c.big)); n != []int{4, 21, 120, 715}[c.f-1] {
			t.Errorf("f %d: %d quorums", c.f, n)
		}
		h := newHouse()
		l := h.rich(c, 3)
		m := api.Msg{Kind: api.MsNewView, View: 3, From: 3, Changes: l}
		if _, e := message.Bytes(h.sealed(m)); e != api.OK || len(l) != c.brokers {
			t.Errorf("f %d: %d view-changes, %d", c.f, len(l), e)
		}
		a := chosen(c.f, 3, l)
		if a.Cert.Seq != 8 || len(a.Entries) != 5 || len(a.Entries[0].Batch) == 0 || len(a.Entries[1].Batch) > 0 || len(a.Entries[2].Batch) == 0 || len(a.Entries[3].Batch) > 0 || len(a.Entries[4].Batch) == 0 {
			t.Errorf("f %d: %+v", c.f, a)
		}
	}
	if h := crowded(); h.x.Len() != api.MaxSums-mostRoom {
		t.Errorf("a crowd of %d", h.x.Len())
	}
}
