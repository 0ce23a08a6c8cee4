package op_test

import (
	"encoding/binary"
	"math"
	"runtime"
	"strings"
	"testing"
	"unicode/utf8"

	"bulla/api"
)

const mostErr = 1 << 16

// runes is a text of n runes, each of them r.
func runes(n int, r rune) string {
	return strings.Repeat(string(r), n)
}

// record is a record of n bytes.
func record(n int) api.Record {
	x := make(api.Record, n)
	for i := range x {
		x[i] = byte(200 + i)
	}
	return x
}

// records are n records, each of so many bytes.
func records(n, each int) []api.Record {
	l := make([]api.Record, n)
	for i := range l {
		l[i] = record(each)
	}
	return l
}

// isName tells whether a text is a name, by the words of the chapter and without the program's help.
func isName(s string) bool {
	n := utf8.RuneCountInString(s)
	return utf8.ValidString(s) && n >= 1 && n <= 16 && !strings.ContainsFunc(s, func(r rune) bool {
		return r <= ' ' || r == '/' || r > '~' && r <= 0x9f || r == 0xfffd
	})
}

// has is the letters of the fields that a kind has, t, g, o and r, and whether it is a kind.
func has(kind int) (string, bool) {
	letters := []string{"", "t", "tr", "tgo", "to"}
	if kind < 0 || kind >= len(letters) {
		return "", false
	}
	return letters[kind], true
}

// check is what Check has to say of an operation.
func check(o api.Op) api.Errno {
	l, is := has(o.Kind)
	field := func(c string) bool { return strings.Contains(l, c) }
	long := false
	for _, x := range o.Records {
		long = long || len(x) > 64
	}
	switch {
	case !is,
		o.Topic != "" && !field("t"),
		o.Group != "" && !field("g"),
		o.Offset != 0 && !field("o"),
		len(o.Records) != 0 && !field("r"):
		return api.ErrOp
	case field("t") && !isName(o.Topic), field("g") && !isName(o.Group):
		return api.ErrName
	case field("r") && (len(o.Records) < 1 || len(o.Records) > 4 || long):
		return api.ErrRecord
	case field("o") && (o.Offset < 0 || o.Offset > 1<<53):
		return api.ErrOp
	}
	return api.OK
}

// text is a byte string's form.
func text(s string) []byte {
	return append(binary.AppendUvarint(nil, uint64(len(s))), s...)
}

// form is the bytes of an operation that may be.
func form(o api.Op) []byte {
	b := []byte{byte(o.Kind)}
	if o.Kind > 0 {
		b = append(b, text(o.Topic)...)
	}
	if o.Kind == 3 {
		b = append(b, text(o.Group)...)
	}
	if o.Kind > 2 {
		b = binary.AppendUvarint(b, uint64(o.Offset))
	}
	if o.Kind == 2 {
		b = append(b, byte(len(o.Records)))
		for _, x := range o.Records {
			b = append(b, text(string(x))...)
		}
	}
	return b
}

// named are texts that are names, and some that are none.
func named() []string {
	return []string{"", "t", "é", "a/b", "\xff", runes(16, 'x'), runes(17, 'x'), runes(16, 0x10ffff)}
}

// offsets are numbers at and beside the ends of what an offset may be.
func offsets() []int64 {
	return []int64{0, 1, -1, 127, 128, api.MaxNum - 1, api.MaxNum, api.MaxNum + 1, math.MinInt64, math.MaxInt64}
}

// lists are records of an operation, with what they may be and what not.
func lists() [][]api.Record {
	return [][]api.Record{
		nil, {}, {nil}, {{}}, {{9}}, {{9}, nil, {1, 2}}, records(4, 0), records(5, 0), records(1, 64), records(1, 65), records(4, 64),
		{record(64), record(64), record(64), record(65)}, {record(65), {}}, records(5, 64), records(5, 65),
	}
}

// kinds are all kinds, and some numbers that are none.
func kinds() []int {
	return []int{0, 1, 2, 3, 4, 5, 6, -1, -2, 127, 128, 256, 257, math.MinInt, math.MaxInt}
}

// all are operations of each kind with each of those fields.
func all() []api.Op {
	var l []api.Op
	for _, kind := range kinds() {
		for _, topic := range named() {
			for _, group := range named() {
				for _, offset := range offsets() {
					for _, x := range lists() {
						l = append(l, api.Op{Kind: kind, Topic: topic, Group: group, Offset: offset, Records: x})
					}
				}
			}
		}
	}
	return l
}

// good are those of all that may be.
func good() []api.Op {
	var l []api.Op
	for _, o := range all() {
		if check(o) == api.OK {
			l = append(l, o)
		}
	}
	return l
}

// same tells whether two operations are the same, field by field.
func same(a, b api.Op) bool {
	if len(a.Records) != len(b.Records) {
		return false
	}
	for i := range a.Records {
		if string(a.Records[i]) != string(b.Records[i]) {
			return false
		}
	}
	return a.Kind == b.Kind && a.Topic == b.Topic && a.Group == b.Group && a.Offset == b.Offset
}

// isZero tells whether an operation is the zero one, with lists that are nil or empty.
func isZero(o api.Op) bool {
	return same(o, api.Op{})
}

// scribble writes to all that an operation's owner can reach.
func scribble(o api.Op) {
	l := o.Records[:cap(o.Records)]
	for i := range l {
		b := l[i][:cap(l[i])]
		for j := range b {
			b[j]++
		}
		l[i] = api.Record("scribble")
	}
}

// allocated is how many bytes of memory do takes.
func allocated(do func()) uint64 {
	var a, b runtime.MemStats
	runtime.ReadMemStats(&a)
	do()
	runtime.ReadMemStats(&b)
	return b.TotalAlloc - a.TotalAlloc
}

// join is byte strings, one behind the other.
func join(l ...[]byte) []byte {
	var b []byte
	for _, x := range l {
		b = append(b, x...)
	}
	return b
}

// The tests' own words for what may be have to be told apart by enough operations.
func TestSamples(t *testing.T) {
	count := map[api.Errno]int{}
	for _, o := range all() {
		count[check(o)]++
	}
	for _, e := range []api.Errno{api.OK, api.ErrOp, api.ErrName, api.ErrRecord} {
		if count[e] < 10 {
			t.Errorf("only %d operations of error %d", count[e], e)
		}
	}
}
