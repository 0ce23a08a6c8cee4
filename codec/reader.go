package codec

import "bulla/api"

// Reader reads bytes from the left, up to its first error.
type Reader struct {
	made bool // tells a reader of no bytes from one that no call made
	rest []byte
	err  api.Errno
}

// Read is a reader at the beginning of b. It reads a copy, since b's owner may write to b later on.
func Read(b []byte) *Reader {
	return &Reader{made: true, rest: roomy(b, 0)}
}

func (r *Reader) reads() bool {
	return r.Err() == api.OK
}

// Num reads a number that is at most most.
func (r *Reader) Num(most uint64) uint64 {
	if !r.reads() {
		return 0
	}
	n, k, e := parseNum(r.rest)
	if e == api.OK && n > most {
		e = api.ErrNum
	}
	if e != api.OK {
		r.Fail(e)
		return 0
	}
	r.rest = r.rest[k:]
	return n
}

// parseNum is the number whose form b begins with, and how long that form is.
func parseNum(b []byte) (uint64, int, api.Errno) {
	n := uint64(0)
	for i, c := range b {
		if i == mostDigits-1 && c > 1 {
			return 0, 0, api.ErrNum
		}
		n |= uint64(c&127) << (7 * i)
		if c >= 128 {
			continue
		}
		if c == 0 && i > 0 { // a highest digit of 0 could be left out
			return 0, 0, api.ErrNum
		}
		return n, i + 1, api.OK
	}
	return 0, 0, api.ErrCut
}

// Take reads the next n bytes.
func (r *Reader) Take(n int) []byte {
	if !r.reads() {
		return nil
	}
	if n < 0 {
		r.Fail(api.ErrArg)
		return nil
	}
	if n > len(r.rest) {
		r.Fail(api.ErrCut)
		return nil
	}
	x := roomy(r.rest[:n], 0) // not a piece of rest: copies of a reader share that
	r.rest = r.rest[n:]
	return x
}

// Bytes reads a byte string of at most most bytes.
func (r *Reader) Bytes(most int) []byte {
	return r.Take(r.length(most))
}

// length reads a number of at most most, which fits an int therefore.
func (r *Reader) length(most int) int {
	return int(r.Num(uint64(max(most, 0))))
}

// List reads a list of at most most byte strings, each of at most each bytes. Its memory grows with what is read, as a count alone may promise parts that never come.
func (r *Reader) List(most, each int) [][]byte {
	var l [][]byte
	for n := r.length(most); n > 0; n-- {
		x := r.Bytes(each)
		if !r.reads() {
			return nil
		}
		l = append(l, x)
	}
	return l
}

// Fail gives the reader an error, if it has none. What is left is let go: nobody reads it any more.
func (r *Reader) Fail(e api.Errno) {
	if r.reads() && e != api.OK {
		r.err, r.rest = e, nil
	}
}

// Left is how many bytes are left.
func (r *Reader) Left() int {
	if !r.reads() {
		return 0
	}
	return len(r.rest)
}

// Err is the reader's error.
func (r *Reader) Err() api.Errno {
	if r == nil || !r.made {
		return api.ErrMade
	}
	return r.err
}

// Done is the reader's error, or ErrRest where bytes are left; that does not become its error.
func (r *Reader) Done() api.Errno {
	if r.reads() && len(r.rest) > 0 {
		return api.ErrRest
	}
	return r.Err()
}
