package wal

import (
	"bytes"
	"iter"
	"slices"
	"strconv"
	"strings"

	"bulla/api"
	"bulla/codec"
)

const mostNumber = 999_999_999_999_999 // of a segment: 15 digits

// segment is a file of a log.
type segment struct {
	number  int64 // N of its name
	first   int64 // the number of its first record; 0, where the file has no whole head
	size    int   // bytes of its head and its whole frames
	records [][]byte
}

// next is the number behind the last record.
func (s segment) next() int64 {
	return s.first + int64(len(s.records))
}

// all goes through numbers and records.
func (s segment) all() iter.Seq2[int64, []byte] {
	return func(yield func(int64, []byte) bool) {
		for i, b := range s.records {
			if !yield(s.first+int64(i), bytes.Clone(b)) {
				return
			}
		}
	}
}

// parse is the segment that stands in a file's bytes, as far as these are whole.
func parse(number int64, b []byte) segment {
	s := segment{number: number}
	for end, record := range frames(b) {
		if s.first == 0 {
			s.first = firstOf(record)
		} else {
			s.records = append(s.records, record)
		}
		if s.first == 0 { // what stands behind no head belongs to nothing
			break
		}
		s.size = end
	}
	return s
}

// firstOf is the number that a head tells; 0, if it tells none that a record has.
func firstOf(head []byte) int64 {
	r := codec.Read(head)
	n := r.Num(api.MaxNum)
	if r.Done() != api.OK {
		return 0
	}
	return int64(n)
}

// headOf is the frame with which a segment begins. A number that firstOf would refuse has none: the log would not be known again.
func headOf(first int64) ([]byte, api.Errno) {
	if first > api.MaxNum {
		return nil, api.ErrFull
	}
	return Frame(codec.PutNum(nil, uint64(first)))
}

func fileName(name string, number int64) string {
	return name + "." + strconv.FormatInt(number, 10)
}

// numberOf is the number of the segment that a file is, if it is one of the log of that name. The name is put together again, as there may be a sign, or a 0 ahead, or another log's name.
func numberOf(name, file string) (int64, bool) {
	n, err := strconv.ParseInt(strings.TrimPrefix(file, name+"."), 10, 64)
	return n, err == nil && n >= 1 && n <= mostNumber && fileName(name, n) == file
}

// numbersOf is the numbers of a log's segments, rising: the names alone would have 10 ahead of 2.
func numbersOf(name string, files []string) []int64 {
	var l []int64
	for _, file := range files {
		if n, is := numberOf(name, file); is {
			l = append(l, n)
		}
	}
	slices.Sort(l)
	return l
}

// isName tells whether a log may have that name.
func isName(name string) bool {
	for _, c := range []byte(name) {
		if c < 'a' || c > 'z' {
			return false
		}
	}
	return len(name) >= 1 && len(name) <= api.MaxPrefix
}
