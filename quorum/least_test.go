package quorum_test

import (
	"math"
	"math/rand"
	"slices"
	"testing"

	"bulla/api"
	"bulla/quorum"
)

// P12.3: told one by one.
func TestLeastByHand(t *testing.T) {
	lo, hi := int64(math.MinInt64), int64(math.MaxInt64)
	for _, x := range []struct {
		k    int
		l    []int64
		want int64
		e    api.Errno
	}{
		{1, []int64{9, 1, 5}, 1, api.OK}, {2, []int64{9, 1, 5}, 5, api.OK}, {3, []int64{9, 1, 5}, 9, api.OK},
		{0, []int64{9, 1, 5}, 0, api.ErrArg}, {4, []int64{9, 1, 5}, 0, api.ErrArg}, {-1, []int64{9, 1, 5}, 0, api.ErrArg}, {-3, []int64{9, 1, 5}, 0, api.ErrArg},
		{1, []int64{7}, 7, api.OK}, {0, []int64{7}, 0, api.ErrArg}, {2, []int64{7}, 0, api.ErrArg}, {1, []int64{0}, 0, api.OK}, {1, []int64{-7}, -7, api.OK},
		{0, nil, 0, api.ErrArg}, {1, nil, 0, api.ErrArg}, {-1, nil, 0, api.ErrArg}, {2, nil, 0, api.ErrArg},
		{0, []int64{}, 0, api.ErrArg}, {1, []int64{}, 0, api.ErrArg},
		{1, []int64{3, 3}, 3, api.OK}, {2, []int64{3, 3}, 3, api.OK}, {3, []int64{3, 3}, 0, api.ErrArg},
		{1, []int64{4, 3, 4, 3}, 3, api.OK}, {2, []int64{4, 3, 4, 3}, 3, api.OK}, {3, []int64{4, 3, 4, 3}, 4, api.OK}, {4, []int64{4, 3, 4, 3}, 4, api.OK}, {5, []int64{4, 3, 4, 3}, 0, api.ErrArg},
		{1, []int64{hi, lo}, lo, api.OK}, {2, []int64{hi, lo}, hi, api.OK},
		{1, []int64{hi, hi, hi}, hi, api.OK}, {3, []int64{lo, lo, lo}, lo, api.OK},
		{2, []int64{hi, -1, lo}, -1, api.OK}, {2, []int64{hi, 0, lo}, 0, api.OK}, {3, []int64{hi - 1, lo, hi, lo + 1}, hi - 1, api.OK}, {2, []int64{hi - 1, lo, hi, lo + 1}, lo + 1, api.OK},
		{3, []int64{api.MaxNum, -api.MaxNum, api.MaxNum + 1, 0}, api.MaxNum, api.OK},
		{math.MinInt, []int64{1, 2}, 0, api.ErrArg}, {math.MaxInt, []int64{1, 2}, 0, api.ErrArg}, {math.MinInt, nil, 0, api.ErrArg}, {math.MaxInt, nil, 0, api.ErrArg},
		{1<<32 + 1, []int64{1, 2}, 0, api.ErrArg}, {1<<8 + 1, []int64{1, 2}, 0, api.ErrArg}, {math.MinInt + 1, []int64{1, 2}, 0, api.ErrArg},
	} {
		least(t, x.k, x.l, x.want, x.e)
	}
}

// fewBelow tells whether x stands at the place k of l, by counting what is below it and what is the same.
func fewBelow(x int64, k int, l []int64) bool {
	below, as := 0, 0
	for _, n := range l {
		if n < x {
			below++
		} else if n == x {
			as++
		}
	}
	return below < k && k <= below+as
}

// P12.3: each list of up to five numbers of a few, the least and the greatest among them, at each place.
func TestLeast(t *testing.T) {
	few := []int64{math.MinInt64, -1, 0, 2, math.MaxInt64}
	lists := [][]int64{nil}
	for begin, many := 0, 0; many <= 5; many++ {
		end := len(lists)
		for _, l := range lists[begin:end] {
			for k := -2; k <= len(l)+2; k++ {
				x, e := quorum.Least(k, l...)
				if k < 1 || k > len(l) {
					if x != 0 || e != api.ErrArg {
						t.Fatalf("Least(%d, %v) = %d, %d", k, l, x, e)
					}
				} else if !fewBelow(x, k, l) || e != api.OK {
					t.Fatalf("Least(%d, %v) = %d, %d", k, l, x, e)
				}
			}
			for _, n := range few {
				lists = append(lists, append(slices.Clone(l), n))
			}
		}
		begin = end
	}
}

// P12.3: longer lists, of many numbers that are the same and of few.
func TestLeastOfMany(t *testing.T) {
	dice := rand.New(rand.NewSource(12))
	for _, many := range []int{6, 9, 13, 40, 300} {
		for _, span := range []int64{2, 10, 1 << 62} {
			l := make([]int64, many)
			for i := range l {
				l[i] = dice.Int63n(span) - span/2
			}
			for k := 1; k <= many; k++ {
				if x, e := quorum.Least(k, l...); !fewBelow(x, k, l) || e != api.OK {
					t.Errorf("Least(%d) of %v = %d, %d", k, l, x, e)
				}
			}
			least(t, 0, l, 0, api.ErrArg)
			least(t, many+1, l, 0, api.ErrArg)
		}
	}
}

// THE BOUND: long lists, whatever their order.
func TestLeastOfLong(t *testing.T) {
	const many = 1 << 20
	rising, falling, same, pipes := make([]int64, many), make([]int64, many), make([]int64, many), make([]int64, many)
	for i := range many {
		rising[i], falling[i], same[i], pipes[i] = int64(i), int64(many-1-i), 5, int64(min(i, many-1-i))
	}
	for _, k := range []int{1, 2, many / 2, many - 1, many} {
		least(t, k, rising, int64(k-1), api.OK)
		least(t, k, falling, int64(k-1), api.OK)
		least(t, k, same, 5, api.OK)
		least(t, k, pipes, int64((k-1)/2), api.OK)
	}
	least(t, many+1, rising, 0, api.ErrArg)
}

// R3: Least leaves what was handed in as it was, and what stands behind it; what is written there later, no call sees.
func TestLeastKeepsOff(t *testing.T) {
	for _, first := range [][]int64{{}, {4}, {9, 1, 5}, {3, 3, 1}, {5, 4, 3, 2, 1, 0, -1}, {math.MaxInt64, 0, math.MinInt64}} {
		for k := -1; k <= len(first)+1; k++ {
			room := append(slices.Clone(first), -70, 80, -90)
			given := room[:len(first)]
			x, e := quorum.Least(k, given...)
			if !slices.Equal(room, append(slices.Clone(first), -70, 80, -90)) {
				t.Errorf("Least(%d, %v) wrote to it: %v", k, first, room)
			}
			for i := range room {
				room[i] = -1000
			}
			least(t, k, first, x, e)
			if e == api.OK {
				least(t, k, given, -1000, api.OK)
			}
		}
	}
}

// told hands what 2f + 1 brokers tell to try, where the faulty ones tell numbers below, between and above the others', as each of them likes.
func told(f int, faulty []int, honest []int64, try func(l []int64, honest []int64)) {
	low, high := honest[0], honest[len(honest)-1]
	lies := []int64{low - 1, (low + high) / 2, high + 1}
	if f < 3 { // of more faulty ones, more lies could not be gone through
		lies = append(lies, math.MinInt64, low, high, math.MaxInt64)
	}
	l := make([]int64, 2*f+1)
	rest := honest
	for b := range l {
		if !slices.Contains(faulty, b) {
			l[b], rest = rest[0], rest[1:]
		}
	}
	var lie func(i int)
	lie = func(i int) {
		if i == len(faulty) {
			try(l, honest)
			return
		}
		for _, n := range lies {
			l[faulty[i]] = n
			lie(i + 1)
		}
	}
	lie(0)
}

// P12.7: the median lies between the least and the greatest of what those tell that are not faulty.
func TestMedian(t *testing.T) {
	for _, c := range clusters() {
		tried, middle := 0, 0
		for _, s := range setsOf(c.big, 0, c.f) {
			faulty := quorum.List(s)
			for _, step := range []int64{0, 1, 5} { // all the same, side by side, far from each other
				honest := make([]int64, c.big-len(faulty))
				for i := range honest {
					honest[i] = 10 + int64(i)*step
				}
				told(c.f, faulty, honest, func(l, honest []int64) {
					x, e := quorum.Least(quorum.Small(c.f), l...)
					if e != api.OK || x < honest[0] || x > honest[len(honest)-1] {
						t.Fatalf("f %d: Least of %v, told by %v: %d, %d", c.f, l, faulty, x, e)
					}
					tried++
					if !slices.Contains(honest, x) {
						middle++
					}
				})
			}
		}
		if tried < 50 || middle == 0 {
			t.Errorf("f %d: %d tried, %d of a lie that lies between", c.f, tried, middle)
		}
	}
}

// P12.7: with more than f faulty ones, or at another place than f + 1, it need not be so: the test of it can fail.
func TestMedianOfTooMany(t *testing.T) {
	for _, c := range clusters() {
		l := make([]int64, c.big) // the faulty ones' are 0
		for i := range c.f {
			l[i] = 10
		}
		least(t, quorum.Small(c.f), l, 0, api.OK)
		l[c.f] = 10
		least(t, quorum.Small(c.f), l, 10, api.OK)
		least(t, quorum.Small(c.f)-1, l, 0, api.OK)
	}
}
