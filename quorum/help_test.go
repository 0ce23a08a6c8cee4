package quorum_test

import (
	"math"
	"testing"

	"bulla/api"
	"bulla/quorum"
)

// cluster is how many brokers there are, told one by one.
type cluster struct{ f, brokers, big, small int }

func clusters() []cluster {
	return []cluster{{1, 4, 3, 2}, {2, 7, 5, 3}, {3, 10, 7, 4}, {4, 13, 9, 5}}
}

// wrongFaults are numbers of faulty brokers that may not be; some would be others, if bits above were cut off or 3 f went round.
func wrongFaults() []int {
	return []int{
		0, -1, -2, -4, 5, 6, 13, math.MinInt, math.MinInt + 1, math.MaxInt, math.MaxInt - 1,
		1 << 8, 1<<8 + 1, 1<<16 + 2, 1<<32 + 3, 1<<62 + 1, -1<<62 + 1, math.MinInt + 4, math.MaxInt/3 + 1, math.MaxInt / 3 * 2,
	}
}

// wrongViews are numbers of views that may not be.
func wrongViews() []int64 {
	return []int64{-1, -2, -4, -13, api.MaxNum + 1, api.MaxNum + 2, api.MaxNum + 14, 1 << 62, math.MinInt64, math.MinInt64 + 1, math.MaxInt64, math.MaxInt64 - 1}
}

// someViews are numbers of views that may be, the edges among them.
func someViews() []int64 {
	var l []int64
	for _, first := range []int64{0, 120, 1<<15 - 8, 1<<16 - 8, 1<<31 - 8, 1<<32 - 8, 1<<52 - 8, api.MaxNum - 30} {
		for i := range int64(31) {
			l = append(l, first+i)
		}
	}
	return l
}

// wrongBrokers are numbers of none of so many brokers.
func wrongBrokers(brokers int) []int {
	l := []int{-1, -2, -13, -16, math.MinInt, math.MinInt + 1, math.MaxInt, math.MaxInt - 1, 64, 65, 256, 1<<16 + 1, 1 << 32, 1<<32 + 2, 1 << 62}
	for b := brokers; b <= 33; b++ {
		l = append(l, b)
	}
	return l
}

// eachSet hands each set that there is to try, those with bits that stand for no broker among them.
func eachSet(try func(s api.Set, brokers []int)) {
	for n := range 1 << 16 {
		try(api.Set(n), brokersOf(n))
	}
}

// brokersOf are the brokers of a set, by halving its number thirteen times.
func brokersOf(n int) []int {
	var l []int
	for b := range 13 {
		if n%2 == 1 {
			l = append(l, b)
		}
		n /= 2
	}
	return l
}

// setOf is the set that has just these brokers, by adding each one's power of two.
func setOf(brokers ...int) api.Set {
	n := 0
	for _, b := range brokers {
		power := 1
		for range b {
			power *= 2
		}
		n += power
	}
	return api.Set(n)
}

// setsOf are all sets of so many brokers that have from least to most of them.
func setsOf(brokers, least, most int) []api.Set {
	var l []api.Set
	for n := range 1 << brokers {
		if m := len(brokersOf(n)); m >= least && m <= most {
			l = append(l, api.Set(n))
		}
	}
	return l
}

// without is a set's brokers that are not faulty.
func without(s, faulty api.Set) api.Set {
	var l []int
	for _, b := range quorum.List(s) {
		if !quorum.Has(faulty, b) {
			l = append(l, b)
		}
	}
	return quorum.Of(l...)
}

// least tells where Least does not answer this, and answers it.
func least(t *testing.T, k int, l []int64, want int64, e api.Errno) {
	t.Helper()
	if x, err := quorum.Least(k, l...); x != want || err != e {
		t.Errorf("Least(%d, %v) = %d, %d, want %d, %d", k, l, x, err, want, e)
	}
}
