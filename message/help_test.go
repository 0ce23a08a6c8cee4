package message_test

import (
	"encoding/binary"
	"math"
	"math/rand"
	"reflect"
	"runtime"
	"slices"
	"strconv"
	"strings"
	"testing"

	"bulla/api"
	"bulla/codec"
	"bulla/op"
	"bulla/request"
)

// forms are the chapter's forms, told to the tests alone: of each its fields in their order, and what stands there.
var forms = map[string]string{
	"cert":     "Seq num, Digest as Seq, Signs as Seq",
	"prepared": "View num, Seq from1, Digest from1, First sign, Signs list 13 sign, Batch batch",
	"change":   "View from1, From broker, Cert cert, Above list 8 prepared, Sign sign",
	"entry":    "View num, Seq from1, Batch batch, Sign sign",
	"header":   "Seq from1, Prev num, Batch num, Root num, State num",
	"proof":    "Topic name, Offset num, Record bytes 64, Headers list 64 header, Index num, Count count, Path list 8 num, Cert cert",

	"1":  "Batch one",
	"2":  "From broker, View num, Seq from1, Digest from1, Batch batch, Sign sign",
	"3":  "From broker, View num, Seq from1, Digest from1, Sign sign",
	"4":  "From broker, View num, Seq from1, Digest from1, Sign sign",
	"5":  "From broker, View num, Client client, Time num, Result result, Sign sign",
	"6":  "From broker, Seq from1, Digest from1, Sign sign",
	"7":  "Changes only",
	"8":  "From broker, View from1, Changes list 13 change, Entries list 8 entry, Sign sign",
	"9":  "From broker, Seq num, Sign sign",
	"10": "From broker, Cert cert, State bytes 262144",
	"11": "Client client, Topic name, Offset num",
	"12": "From broker, Proof proof",
}

// field is one of a form: its name, what stands there, and what that is told with.
type field struct {
	name, what string
	with       []string
}

func fieldsOf(form string) []field {
	var l []field
	for _, s := range strings.Split(forms[form], ", ") {
		w := strings.Fields(s)
		l = append(l, field{w[0], w[1], w[2:]})
	}
	return l
}

func (f field) most() int64 {
	n, err := strconv.ParseInt(f.with[0], 10, 64)
	if err != nil {
		panic(f)
	}
	return n
}

// least and most are what a number lies between.
func bounds(what string) (int64, int64) {
	switch what {
	case "num":
		return 0, 1 << 53
	case "from1":
		return 1, 1 << 53
	case "broker":
		return 0, 12
	case "client":
		return 0, 7
	}
	panic(what)
}

// model puts a form with what may not be in it, too: its first error, and its bytes.
type model struct {
	e api.Errno
	b []byte
}

func (m *model) fail(bad bool, e api.Errno) {
	if bad && m.e == 0 {
		m.e = e
	}
}

func (m *model) num(n, least, most int64) {
	m.fail(n < least || n > most, 100)
	m.b = num(m.b, uint64(n))
}

func (m *model) form(form string, v reflect.Value) {
	for _, f := range fieldsOf(form) {
		m.part(f, v.FieldByName(f.name), v)
	}
}

// part puts a field x of v.
func (m *model) part(f field, x, v reflect.Value) {
	switch f.what {
	case "as": // a certificate's, of Seq 0 and of others
		zero := v.FieldByName("Seq").Int() == 0
		switch {
		case f.name == "Digest" && zero:
			m.num(x.Int(), 0, 0)
		case f.name == "Digest":
			m.num(x.Int(), 1, 1<<53)
		case zero:
			m.list(x, 0, field{what: "sign"})
		default:
			m.list(x, 13, field{what: "sign"})
		}
	case "list":
		m.list(x, f.most(), field{what: f.with[1]})
	case "only":
		m.fail(x.Len() != 1, 100)
		for i := range x.Len() {
			m.form("change", x.Index(i))
		}
	case "count":
		m.num(x.Int(), 0, 16)
		m.fail(v.FieldByName("Index").Int() >= x.Int(), 100)
	case "bytes":
		m.fail(int64(x.Len()) > f.most(), 100)
		m.b = text(m.b, x.Bytes())
	case "name":
		m.fail(!op.Name(x.String()), 61)
		m.b = text(m.b, x.String())
	case "sign", "batch", "one", "result":
		m.below(f.what, x)
	case "num", "from1", "broker", "client":
		least, most := bounds(f.what)
		m.num(x.Int(), least, most)
	default:
		m.form(f.what, x)
	}
}

// below puts what the layers below have forms of.
func (m *model) below(what string, x reflect.Value) {
	switch what {
	case "sign":
		s := x.Interface().(api.Sign)
		m.fail(true, request.CheckSign(s))
		m.b = signForm(m.b, s)
	case "one", "batch":
		l := x.Interface().(api.Batch)
		m.fail(what == "one" && len(l) != 1, 100)
		m.fail(true, request.CheckBatch(l))
		m.b = num(m.b, uint64(len(l)))
		for _, s := range l {
			b := num(num(nil, uint64(s.Request.Client)), uint64(s.Request.Time))
			m.b = signForm(text(m.b, op.Put(b, s.Request.Op)), s.Sign)
		}
	case "result":
		m.num(x.Field(0).Int(), 0, 1<<16)
		m.num(x.Field(1).Int(), 0, 1<<53)
	}
}

func (m *model) list(x reflect.Value, most int64, one field) {
	m.num(int64(x.Len()), 0, most)
	for i := range x.Len() {
		m.part(one, x.Index(i), x)
	}
}

// modelOf is a form with its error, of a message, a certificate, a change or a proof.
func modelOf(x any) model {
	m := model{}
	switch x := x.(type) {
	case api.Msg:
		m.message(x)
	case api.Cert:
		m.form("cert", reflect.ValueOf(x))
	case api.Change:
		m.form("change", reflect.ValueOf(x))
	case api.Proof:
		m.form("proof", reflect.ValueOf(x))
	}
	return m
}

func (m *model) message(x api.Msg) {
	m.num(int64(x.Kind), 1, 12)
	if x.Kind < 1 || x.Kind > 12 {
		return
	}
	form := strconv.Itoa(x.Kind)
	v := reflect.ValueOf(x)
	m.form(form, v)
	has := []string{"Kind"}
	if x.Kind == 7 {
		m.fail(len(x.Changes) == 1 && (x.From != x.Changes[0].From || x.View != x.Changes[0].View), 100)
		has = append(has, "From", "View")
	}
	for _, f := range fieldsOf(form) {
		has = append(has, f.name)
	}
	for i := range v.NumField() {
		if !slices.Contains(has, v.Type().Field(i).Name) {
			m.fail(!reflect.DeepEqual(normal(v.Field(i).Interface()), reflect.Zero(v.Field(i).Type()).Interface()), 100)
		}
	}
}

// eater reads a form by the tests' own words for it, to tell the error.
type eater struct {
	*codec.Reader
	known map[string]uint64 // what numbers were read by these names last
}

func (r *eater) num(name string, least, most, allowed uint64) uint64 {
	n := r.Num(allowed)
	if n < least || n > most {
		r.Fail(100)
	}
	r.known[name] = n
	return n
}

func (r *eater) form(form string) {
	for _, f := range fieldsOf(form) {
		r.part(f)
	}
}

func (r *eater) list(most uint64, one field) {
	for n := r.num("", 0, most, 1<<53); n > 0 && r.Err() == 0; n-- {
		r.part(one)
	}
}

func (r *eater) part(f field) {
	switch f.what {
	case "as":
		most, many := uint64(1<<53), uint64(13)
		if r.known["Seq"] == 0 {
			most, many = 0, 0
		}
		if f.name == "Digest" {
			r.num("Digest", min(1, most), most, 1<<53)
		} else {
			r.list(many, field{what: "sign"})
		}
	case "list":
		r.list(uint64(f.most()), field{what: f.with[1]})
	case "only":
		r.form("change")
	case "count":
		index := r.known["Index"]
		if r.num("Count", 0, 16, 1<<53) <= index {
			r.Fail(100)
		}
	case "bytes":
		r.Bytes(int(f.most()))
	case "name":
		if s := r.Bytes(64); !op.Name(string(s)) {
			r.Fail(61)
		}
	case "sign":
		request.TakeSign(r.Reader)
	case "result":
		op.TakeResult(r.Reader)
	case "one", "batch":
		if l := request.TakeBatch(r.Reader); f.what == "one" && len(l) != 1 {
			r.Fail(100)
		}
	case "num", "from1", "broker", "client":
		least, most := bounds(f.what)
		r.num(f.name, uint64(least), uint64(most), uint64(most))
	default:
		r.form(f.what)
	}
}

// eaten is the error of a text that is to be of a form; of a message's that is "".
func eaten(form string, b []byte) api.Errno {
	if len(b) > 1<<18 {
		return 3
	}
	r := &eater{codec.Read(b), map[string]uint64{}}
	if form == "" {
		form = strconv.Itoa(int(r.num("", 1, 12, 1<<53)))
	}
	if r.Err() == 0 {
		r.form(form)
	}
	return r.Done()
}

func num(b []byte, n uint64) []byte {
	return binary.AppendUvarint(b, n)
}

func text[T []byte | string](b []byte, s T) []byte {
	return append(num(b, uint64(len(s))), s...)
}

func signForm(b []byte, s api.Sign) []byte {
	return num(num(b, uint64(s.Key)), uint64(s.Digest))
}

// normal is x with nil for each list that is empty, in memory of its own.
func normal[T any](x T) T {
	v := reflect.New(reflect.TypeOf(x)).Elem()
	v.Set(copied(reflect.ValueOf(x)))
	return v.Interface().(T)
}

func copied(v reflect.Value) reflect.Value {
	c := reflect.New(v.Type()).Elem()
	switch v.Kind() {
	case reflect.Struct:
		for i := range v.NumField() {
			c.Field(i).Set(copied(v.Field(i)))
		}
	case reflect.Slice:
		if v.Len() == 0 {
			return c
		}
		c.Set(reflect.MakeSlice(v.Type(), v.Len(), v.Len()))
		if isBytes(v) {
			reflect.Copy(c, v)
			return c
		}
		for i := range v.Len() {
			c.Index(i).Set(copied(v.Index(i)))
		}
	default:
		c.Set(v)
	}
	return c
}

// emptied is x with a list that is empty, not nil, wherever there is nothing in one.
func emptied[T any](x T) T {
	c := normal(x)
	for _, v := range knobs(&c) {
		if v.Kind() == reflect.Slice && v.Len() == 0 {
			v.Set(reflect.MakeSlice(v.Type(), 0, 2))
		}
	}
	return c
}

// same tells whether two things are the same, field by field, without the program's help.
func same[T any](a, b T) bool {
	return reflect.DeepEqual(normal(a), normal(b))
}

func isZero[T any](x T) bool {
	var none T
	return same(x, none)
}

// knobs are all the numbers, texts and lists within x, which is a pointer: lists ahead of what stands in them.
func knobs(x any) []reflect.Value {
	var l []reflect.Value
	var down func(v reflect.Value)
	down = func(v reflect.Value) {
		if v.Kind() != reflect.Struct {
			l = append(l, v)
		}
		switch v.Kind() {
		case reflect.Struct:
			for i := range v.NumField() {
				down(v.Field(i))
			}
		case reflect.Slice:
			if isBytes(v) {
				return
			}
			for i := range v.Len() {
				down(v.Index(i))
			}
		}
	}
	down(reflect.ValueOf(x).Elem())
	return l
}

func isBytes(v reflect.Value) bool {
	return v.Kind() == reflect.Slice && v.Type().Elem().Kind() == reflect.Uint8
}

// turns are what a knob is set to: the edges of all numbers, names and texts that may be and such as may not, lists of many lengths.
func turns(v reflect.Value) []func() {
	var l []func()
	switch v.Kind() {
	case reflect.Int, reflect.Int64:
		for _, n := range edges() {
			l = append(l, func() { v.SetInt(n) })
		}
		l = append(l, func() { v.SetInt(v.Int() + 1) }, func() { v.SetInt(v.Int() - 1) })
	case reflect.String:
		for _, s := range names() {
			l = append(l, func() { v.SetString(s) })
		}
	case reflect.Slice:
		for _, n := range lengths(v.Type()) {
			l = append(l, func() { v.Set(stretched(v, n)) })
		}
		if isBytes(v) && v.Len() > 0 {
			l = append(l, func() { x := v.Index(v.Len() - 1); x.SetUint(x.Uint() ^ 1) })
		}
		l = append(l, func() { v.SetZero() }, func() { v.Set(stretched(v, v.Len()+1)) }, func() { v.Set(stretched(v, max(v.Len()-1, 0))) })
	}
	return l
}

func edges() []int64 {
	return []int64{-1, 0, 1, 2, 3, 6, 7, 8, 12, 13, 15, 16, 17, 20, 21, 1 << 16, 1<<16 + 1, 1<<53 - 1, 1 << 53, 1<<53 + 1, 1 << 60, math.MinInt64, math.MaxInt64}
}

// names are such as may be, the longest among them, and such as may not.
func names() []string {
	long := strings.Repeat("\U0010ffff", 16)
	return []string{"", "t", "größe", long, strings.Repeat("x", 16), strings.Repeat("x", 17), strings.Repeat("é", 17), long + "x", strings.Repeat("x", 64), strings.Repeat("x", 65), strings.Repeat("x", 300), "a/b", "a b", "\xff", "\xff\xff", "�", "\xed\xa0\x80"}
}

func lengths(t reflect.Type) []int {
	if t.Elem().Kind() == reflect.Uint8 {
		return []int{0, 1, 63, 64, 65, 200, 1<<18 - 8, 1 << 18, 1<<18 + 1}
	}
	return []int{0, 1, 2, 3, 4, 5, 7, 8, 9, 12, 13, 14, 63, 64, 65}
}

// stretched is a list of so many: those of v, and bytes of 0, or its last one again and again, at later times, so that none is there twice.
func stretched(v reflect.Value, n int) reflect.Value {
	l := reflect.MakeSlice(v.Type(), n, n)
	if isBytes(v) {
		reflect.Copy(l, v)
		return l
	}
	for i := range n {
		switch {
		case i < v.Len():
			l.Index(i).Set(copied(v.Index(i)))
		case v.Len() > 0:
			l.Index(i).Set(copied(v.Index(v.Len() - 1)))
			if s, is := l.Index(i).Addr().Interface().(*api.Signed); is {
				s.Request.Time -= int64(i)
			}
		}
	}
	return l
}

func sign(key int, d api.Digest) api.Sign {
	return api.Sign{Key: key, Digest: d}
}

func signs(n int) []api.Sign {
	var l []api.Sign
	for i := range n {
		l = append(l, sign(i, api.Digest(i+5)))
	}
	return l
}

// batch is so many requests of clients, that are signed by nobody.
func batch(n int) api.Batch {
	var l api.Batch
	for i := range n {
		o := []api.Op{{Kind: api.OpPublish, Topic: "t", Records: []api.Record{{9}, {}, {7, 8}}}, {}, {Kind: api.OpCommit, Topic: "t", Group: "g", Offset: 300}, {Kind: api.OpCreate, Topic: "größe"}}[i%4]
		l = append(l, api.Signed{Request: api.Request{Client: 3 - i, Time: int64(7000 + 100*i), Op: o}, Sign: sign(16-i, api.Digest(i+1))})
	}
	return l
}

func cert() api.Cert {
	return api.Cert{Seq: 4, Digest: 9, Signs: signs(3)}
}

func prepareds(n int) []api.Prepared {
	var l []api.Prepared
	for i := range n {
		l = append(l, api.Prepared{View: int64(i), Seq: int64(5 + i), Digest: api.Digest(300 + i), First: sign(i, 17), Signs: signs(2), Batch: batch(1 + i%4)})
	}
	return l
}

func change(n int) api.Change {
	return api.Change{View: 2, From: 1, Cert: cert(), Above: prepareds(n), Sign: sign(1, 77)}
}

func changes(n int) []api.Change {
	var l []api.Change
	for i := range n {
		c := change(2 - i%3)
		c.From = i
		if i == 1 {
			c.Cert = api.Cert{}
		}
		l = append(l, c)
	}
	return l
}

func entries(n int) []api.Entry {
	var l []api.Entry
	for i := range n {
		l = append(l, api.Entry{View: 2, Seq: int64(i + 5), Batch: batch(i % 5), Sign: sign(2, api.Digest(40+i))})
	}
	return l
}

func headers(n int) []api.Header {
	var l []api.Header
	for i := range n {
		l = append(l, api.Header{Seq: int64(i + 1), Prev: api.Digest(i), Batch: 128, Root: 0, State: 1 << 40})
	}
	return l
}

func proof() api.Proof {
	return api.Proof{Topic: "größe", Offset: 3, Record: api.Record{7, 0, 200}, Headers: headers(3), Index: 1, Count: 3, Path: []api.Digest{0, 300}, Cert: cert()}
}

// ordinary is a message of each Kind, by Kind.
func ordinary() []api.Msg {
	return []api.Msg{
		{Kind: api.MsRequest, Batch: batch(1)},
		{Kind: api.MsPrePrepare, From: 2, View: 200, Seq: 3, Digest: 4, Batch: batch(2), Sign: sign(2, 6)},
		{Kind: api.MsPrepare, From: 1, Seq: 3, Digest: 9, Sign: sign(1, 5)},
		{Kind: api.MsCommit, From: 3, View: 1, Seq: 300, Digest: 9000, Sign: sign(3, 50000)},
		{Kind: api.MsReply, From: 1, View: 2, Client: 3, Time: 4, Result: api.Result{Err: 60, Offset: 300}, Sign: sign(1, 7)},
		{Kind: api.MsCheckpoint, From: 1, Seq: 4, Digest: 3, Sign: sign(1, 2)},
		{Kind: api.MsViewChange, From: 1, View: 2, Changes: []api.Change{change(2)}},
		{Kind: api.MsNewView, From: 2, View: 2, Changes: changes(2), Entries: entries(2), Sign: sign(2, 8)},
		{Kind: api.MsFetch, From: 1, Seq: 8, Sign: sign(1, 6)},
		{Kind: api.MsSnap, From: 1, Cert: cert(), State: []byte("state")},
		{Kind: api.MsAsk, Client: 3, Topic: "größe", Offset: 4000},
		{Kind: api.MsProof, From: 1, Proof: proof()},
	}
}

// small are messages of which each number and each list is as small as may be, by Kind.
func small() []api.Msg {
	s := sign(0, 1)
	return []api.Msg{
		{Kind: api.MsRequest, Batch: api.Batch{{Request: api.Request{Time: 1}, Sign: s}}},
		{Kind: api.MsPrePrepare, Seq: 1, Digest: 1, Sign: s},
		{Kind: api.MsPrepare, Seq: 1, Digest: 1, Sign: s},
		{Kind: api.MsCommit, Seq: 1, Digest: 1, Sign: s},
		{Kind: api.MsReply, Sign: s},
		{Kind: api.MsCheckpoint, Seq: 1, Digest: 1, Sign: s},
		{Kind: api.MsViewChange, View: 1, Changes: []api.Change{{View: 1, Sign: s}}},
		{Kind: api.MsNewView, View: 1, Sign: s},
		{Kind: api.MsFetch, Sign: s},
		{Kind: api.MsSnap},
		{Kind: api.MsAsk, Topic: "t"},
		{Kind: api.MsProof, Proof: api.Proof{Topic: "t", Count: 1}},
	}
}

const most = 1 << 53

// great are messages of which each number and each list is as great as may be, by Kind.
func great() []api.Msg {
	s, long := sign(20, most), strings.Repeat("\U0010ffff", 16)
	full := api.Record(strings.Repeat("\xff", 64))
	o := api.Op{Kind: api.OpPublish, Topic: long, Records: []api.Record{full, full, full, full}}
	var b api.Batch
	for i := range 4 {
		b = append(b, api.Signed{Request: api.Request{Client: 7, Time: most - int64(i), Op: o}, Sign: s})
	}
	c := api.Cert{Seq: most, Digest: most, Signs: slices.Repeat([]api.Sign{s}, 13)}
	p := api.Prepared{View: most, Seq: most, Digest: most, First: s, Signs: c.Signs, Batch: b}
	x := api.Change{View: most, From: 12, Cert: c, Above: slices.Repeat([]api.Prepared{p}, 8), Sign: s}
	y := api.Entry{View: most, Seq: most, Batch: b, Sign: s}
	h := api.Header{Seq: most, Prev: most, Batch: most, Root: most, State: most}
	room := 1<<18 - 1 - 1 - 8 - 8 - 1 - 13*9 - 3 // of the longest form there is, for the State
	return []api.Msg{
		{Kind: api.MsRequest, Batch: b[:1]},
		{Kind: api.MsPrePrepare, From: 12, View: most, Seq: most, Digest: most, Batch: b, Sign: s},
		{Kind: api.MsPrepare, From: 12, View: most, Seq: most, Digest: most, Sign: s},
		{Kind: api.MsCommit, From: 12, View: most, Seq: most, Digest: most, Sign: s},
		{Kind: api.MsReply, From: 12, View: most, Client: 7, Time: most, Result: api.Result{Err: 1 << 16, Offset: most}, Sign: s},
		{Kind: api.MsCheckpoint, From: 12, Seq: most, Digest: most, Sign: s},
		{Kind: api.MsViewChange, From: 12, View: most, Changes: []api.Change{x}},
		{Kind: api.MsNewView, From: 12, View: most, Changes: slices.Repeat([]api.Change{x}, 13), Entries: slices.Repeat([]api.Entry{y}, 8), Sign: s},
		{Kind: api.MsFetch, From: 12, Seq: most, Sign: s},
		{Kind: api.MsSnap, From: 12, Cert: c, State: slices.Repeat([]byte{255}, room)},
		{Kind: api.MsAsk, Client: 7, Topic: long, Offset: most},
		{Kind: api.MsProof, From: 12, Proof: api.Proof{Topic: long, Offset: most, Record: full, Headers: slices.Repeat([]api.Header{h}, 64), Index: 15, Count: 16, Path: slices.Repeat([]api.Digest{most}, 8), Cert: c}},
	}
}

// samples are messages that may be, of each Kind, each in memory of its own.
func samples() []api.Msg {
	return normal(slices.Concat(ordinary(), small(), great()))
}

// light are those of them that are not so long that there is no time to do much with each.
func light() []api.Msg {
	return slices.DeleteFunc(samples(), func(m api.Msg) bool {
		return m.From == 12 && (m.Kind == api.MsNewView || m.Kind == api.MsSnap)
	})
}

// full is a message of no Kind that has something everywhere.
func full() api.Msg {
	return normal(api.Msg{
		Kind: 99, From: 5, View: 6, Seq: 7, Digest: 8, Client: 9, Time: 10, Result: api.Result{Err: 11, Offset: 12}, Batch: batch(4), Cert: cert(),
		Changes: changes(3), Entries: entries(3), State: []byte("state"), Topic: "topic", Offset: 13, Proof: proof(), Sign: sign(14, 15),
	})
}

// certs, changesOf and proofs are such as may be.
func certs() []api.Cert {
	var l []api.Cert
	for _, m := range samples() {
		if m.Kind == api.MsSnap {
			l = append(l, m.Cert)
		}
	}
	return append(l, api.Cert{Seq: 1, Digest: 1}, api.Cert{Seq: most, Digest: 1, Signs: signs(1)})
}

func someChanges() []api.Change {
	var l []api.Change
	for _, m := range light() {
		l = append(l, m.Changes...)
	}
	return append(l, change(0), change(8))
}

func proofs() []api.Proof {
	var l []api.Proof
	for _, m := range samples() {
		if m.Kind == api.MsProof {
			l = append(l, m.Proof)
		}
	}
	return l
}

// scribble writes to all that the owner of x, which is a pointer, can reach.
func scribble(x any) {
	scribbleValue(reflect.ValueOf(x).Elem())
}

func scribbleValue(v reflect.Value) {
	switch v.Kind() {
	case reflect.Struct:
		for i := range v.NumField() {
			scribbleValue(v.Field(i))
		}
	case reflect.Slice:
		v = v.Slice(0, v.Cap())
		for i := range v.Len() {
			scribbleValue(v.Index(i))
		}
	case reflect.Int, reflect.Int64:
		v.SetInt(v.Int() + 1)
	case reflect.Uint8:
		v.SetUint(v.Uint() + 1)
	case reflect.String:
		v.SetString("scribble")
	}
}

// behind is x with room behind each list, that is full of what must not be written to; and what tells whether it was.
func behind[T any](x T) (T, func() bool) {
	c := normal(x)
	var rooms []reflect.Value
	for _, v := range slices.Backward(knobs(&c)) { // what stands in a list ahead of the list
		if v.Kind() == reflect.Slice {
			n := v.Len()
			room := reflect.MakeSlice(v.Type(), n+3, n+3)
			for i := range n + 3 {
				if i < n {
					room.Index(i).Set(v.Index(i))
				}
			}
			rooms = append(rooms, room.Slice(n, n+3))
			v.Set(room.Slice(0, n))
		}
	}
	return c, func() bool {
		for _, room := range rooms {
			for i := range room.Len() {
				if !room.Index(i).IsZero() {
					return true
				}
			}
		}
		return false
	}
}

// allocated is how many bytes of memory do takes.
func allocated(do func()) uint64 {
	var a, b runtime.MemStats
	runtime.ReadMemStats(&a)
	do()
	runtime.ReadMemStats(&b)
	return b.TotalAlloc - a.TotalAlloc
}

func join(l ...[]byte) []byte {
	return slices.Concat(l...)
}

// turned is a text of which some bytes were turned, left out or put in.
func turned(dice *rand.Rand, b []byte) []byte {
	b = slices.Clone(b)
	for range 1 + dice.Intn(3) {
		i := dice.Intn(len(b))
		switch dice.Intn(4) {
		case 0:
			b[i] ^= 1 << dice.Intn(8)
		case 1:
			b = slices.Insert(b, i, byte(dice.Intn(256)))
		case 2:
			b = append(slices.Delete(b, i, i+1), 0)
		case 3:
			b[i] = []byte{0, 1, 2, 8, 9, 13, 14, 20, 21, 64, 65, 127, 128, 255}[dice.Intn(14)]
		}
	}
	return b
}

// The samples have to be what they say.
func TestSamples(t *testing.T) {
	for i, m := range samples() {
		if m.Kind != i%12+1 || modelOf(m).e != 0 || eaten("", modelOf(m).b) != 0 {
			t.Errorf("%d: Kind %d: %d, %d", i, m.Kind, modelOf(m).e, eaten("", modelOf(m).b))
		}
	}
	if n := len(modelOf(samples()[24+9]).b); n != 1<<18 {
		t.Errorf("the longest form has %d bytes", n)
	}
	if len(knobs(new(api.Msg))) != 30 {
		t.Errorf("a message without lists has %d numbers, texts and lists", len(knobs(new(api.Msg))))
	}
}
