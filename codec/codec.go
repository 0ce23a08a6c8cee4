// Package codec is layer 1: see shared/doc/01-codec.md.
package codec

// mostDigits is how many digits to the base 128 a number below 2^64 has at most; of the last of so many, one bit alone is left.
const mostDigits = 10

// digits is a number's form: the beginning of an array, and how long it is.
func digits(n uint64) ([mostDigits]byte, int) {
	var d [mostDigits]byte
	i := 0
	for n >= 128 {
		d[i] = byte(n&127) | 128
		n >>= 7
		i++
	}
	d[i] = byte(n)
	return d, i + 1
}

// roomy is b in memory of its own, with room for so much more, so that what is put behind it touches nothing of b's owner.
func roomy(b []byte, more int) []byte {
	return append(make([]byte, 0, len(b)+more), b...)
}

// addNum and addBytes write into b's own room: b comes from roomy.
func addNum(b []byte, n uint64) []byte {
	d, k := digits(n)
	return append(b, d[:k]...)
}

func addBytes(b, x []byte) []byte {
	return append(addNum(b, uint64(len(x))), x...)
}

func bytesLen(x []byte) int {
	return NumLen(uint64(len(x))) + len(x)
}

// PutNum is b and the form of n behind it.
func PutNum(b []byte, n uint64) []byte {
	return addNum(roomy(b, NumLen(n)), n)
}

// PutBytes is b and the form of x behind it.
func PutBytes(b, x []byte) []byte {
	return addBytes(roomy(b, bytesLen(x)), x)
}

// PutList is b and the form of the list l behind it. The parts are measured first, as a copy of b for each of them would not stay near-linear.
func PutList(b []byte, l ...[]byte) []byte {
	more := NumLen(uint64(len(l)))
	for _, x := range l {
		more += bytesLen(x)
	}
	b = addNum(roomy(b, more), uint64(len(l)))
	for _, x := range l {
		b = addBytes(b, x)
	}
	return b
}

// NumLen is how many bytes the form of n has.
func NumLen(n uint64) int {
	_, k := digits(n)
	return k
}
