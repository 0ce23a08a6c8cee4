package quorum_test

import (
	"math"
	"slices"
	"testing"

	"bulla/api"
	"bulla/quorum"
)

// P12.2: Of, told one by one: none, the same one twice, such as are none.
func TestOfByHand(t *testing.T) {
	for _, x := range []struct {
		l    []int
		want api.Set
	}{
		{nil, 0}, {[]int{}, 0},
		{[]int{0}, 1}, {[]int{1}, 2}, {[]int{12}, 4096}, {[]int{0, 2}, 5}, {[]int{2, 0}, 5},
		{[]int{3, 3}, 8}, {[]int{3, 3, 3}, 8}, {[]int{0, 0, 12, 0, 12}, 4097},
		{[]int{13}, 0}, {[]int{15}, 0}, {[]int{16}, 0}, {[]int{64}, 0}, {[]int{-1}, 0}, {[]int{math.MinInt}, 0}, {[]int{math.MaxInt}, 0},
		{[]int{-1, 0, 2, 2, 13}, 5}, {[]int{13, 12, 14}, 4096}, {[]int{math.MaxInt, 1, math.MinInt}, 2},
		{[]int{0, 1, 2, 3, 4, 5, 6, 7, 8, 9, 10, 11, 12}, 8191},
		{[]int{15, 14, 13, 12, 11, 10, 9, 8, 7, 6, 5, 4, 3, 2, 1, 0, -1}, 8191},
	} {
		if s := quorum.Of(x.l...); s != x.want {
			t.Errorf("Of(%v) = %d, want %d", x.l, s, x.want)
		}
	}
}

// P12.2: Of, of the brokers of each set, in either order, twice, and with such as are none between.
func TestOf(t *testing.T) {
	wrong := wrongBrokers(13)
	eachSet(func(s api.Set, brokers []int) {
		want := s % (1 << 13)
		back := slices.Clone(brokers)
		slices.Reverse(back)
		for _, l := range [][]int{brokers, back, slices.Concat(brokers, back), slices.Concat(brokers, wrong), slices.Concat(wrong, back)} {
			if g := quorum.Of(l...); g != want {
				t.Fatalf("Of(%v) = %d, want %d", l, g, want)
			}
		}
	})
	for _, b := range wrong {
		if s := quorum.Of(b); s != 0 {
			t.Errorf("Of(%d) = %d", b, s)
		}
	}
}

// P12.2: All of each f, and of such as may not be.
func TestAll(t *testing.T) {
	for i, want := range []api.Set{15, 127, 1023, 8191} {
		if s := quorum.All(i + 1); s != want {
			t.Errorf("All(%d) = %d, want %d", i+1, s, want)
		}
	}
	for _, f := range wrongFaults() {
		if s := quorum.All(f); s != 0 {
			t.Errorf("All(%d) = %d", f, s)
		}
	}
}

// P12.2: Has, Many and List, of each set that there is.
func TestAskSets(t *testing.T) {
	eachSet(func(s api.Set, brokers []int) {
		if n := quorum.Many(s); n != len(brokers) {
			t.Fatalf("Many(%b) = %d, want %d", s, n, len(brokers))
		}
		if l := quorum.List(s); !slices.Equal(l, brokers) {
			t.Fatalf("List(%b) = %v, want %v", s, l, brokers)
		}
		for b := range 13 {
			if is := slices.Contains(brokers, b); quorum.Has(s, b) != is {
				t.Fatalf("Has(%b, %d) = %v", s, b, !is)
			}
		}
		for _, b := range wrongBrokers(13) {
			if quorum.Has(s, b) {
				t.Fatalf("Has(%b, %d), which is no broker", s, b)
			}
		}
	})
}

// P12.2: sets that have none but bits from MaxBrokers on, told one by one.
func TestBitsOfNobody(t *testing.T) {
	for _, s := range []api.Set{0, 1 << 13, 1 << 14, 1 << 15, 3 << 13, 5 << 13, 3 << 14, 7 << 13} {
		if n, l := quorum.Many(s), quorum.List(s); n != 0 || len(l) != 0 {
			t.Errorf("Many, List of %b: %d, %v", s, n, l)
		}
		for b := range 16 {
			if quorum.Has(s, b) {
				t.Errorf("Has(%b, %d)", s, b)
			}
			if quorum.Has(math.MaxUint16, b) != (b < 13) {
				t.Errorf("Has of all bits, %d: %v", b, b >= 13)
			}
		}
		if w := quorum.With(s, 3); w != 8 {
			t.Errorf("With(%b, 3) = %d", s, w)
		}
		if w := quorum.With(s, 13); w != 0 {
			t.Errorf("With(%b, 13) = %d", s, w)
		}
		for _, o := range []api.Set{0, 1, 8191, s, 1<<13 | 5, math.MaxUint16} {
			if a, b := quorum.Both(s, o), quorum.Both(o, s); a != 0 || b != 0 {
				t.Errorf("Both of %b and %b: %d, %d", s, o, a, b)
			}
		}
	}
	if b, w := quorum.Both(math.MaxUint16, math.MaxUint16), quorum.With(math.MaxUint16, -1); b != 8191 || w != 8191 {
		t.Errorf("of all bits: Both %d, With %d", b, w)
	}
}

// P12.2: each set with each broker, those in it already and such as are none among them.
func TestWith(t *testing.T) {
	eachSet(func(s api.Set, brokers []int) {
		for b := range 13 {
			want := setOf(brokers...)
			if !slices.Contains(brokers, b) {
				want = setOf(append(brokers, b)...)
			}
			if w := quorum.With(s, b); w != want {
				t.Fatalf("With(%b, %d) = %b, want %b", s, b, w, want)
			}
		}
		for _, b := range wrongBrokers(13) {
			if w := quorum.With(s, b); w != s%(1<<13) {
				t.Fatalf("With(%b, %d), which is no broker: %b", s, b, w)
			}
		}
	})
}

// P12.2: Both, of each set with some others, in either place.
func TestBoth(t *testing.T) {
	others := []api.Set{0, 1, 2, 5, 7, 12, 1 << 12, 1<<13 - 1, 1 << 13, 1<<13 | 1, 0x5555, 0xaaaa, 0xe00f, 0xf0f0, 0xffff}
	eachSet(func(s api.Set, brokers []int) {
		for _, o := range others {
			var common []int
			for _, b := range brokersOf(int(o)) {
				if slices.Contains(brokers, b) {
					common = append(common, b)
				}
			}
			want := setOf(common...)
			if a, b := quorum.Both(s, o), quorum.Both(o, s); a != want || b != want {
				t.Fatalf("Both of %b and %b: %b, %b, want %b", s, o, a, b, want)
			}
		}
	})
}

// P12.2: a list of a set gives the set again, a set that grows by each broker is that of all.
func TestSetsAgain(t *testing.T) {
	eachSet(func(s api.Set, brokers []int) {
		var grown api.Set
		for _, b := range brokers {
			grown = quorum.With(grown, b)
		}
		if a := quorum.Of(quorum.List(s)...); a != s%(1<<13) || grown != a {
			t.Fatalf("of List(%b): %b, grown %b", s, a, grown)
		}
	})
	for _, c := range clusters() {
		if s := quorum.All(c.f); quorum.Many(s) != c.brokers || !slices.Equal(quorum.List(s), brokersOf(1<<c.brokers-1)) {
			t.Errorf("All(%d) has %v", c.f, quorum.List(s))
		}
	}
}

// R3: Of leaves what was handed in as it was, and what stands behind it; what is written there later, no set has.
func TestOfKeepsOff(t *testing.T) {
	for _, first := range [][]int{{}, {5}, {12, 0, 0, 12}, {9, 13, -1, 3, 3, math.MinInt, math.MaxInt, 0}} {
		room := append(slices.Clone(first), 7, 6, 5)
		given := room[:len(first)]
		s := quorum.Of(given...)
		if !slices.Equal(room, append(slices.Clone(first), 7, 6, 5)) {
			t.Errorf("Of(%v) wrote to it: %v", first, room)
		}
		for i := range room {
			room[i] = 1
		}
		if again := quorum.Of(first...); again != s {
			t.Errorf("Of(%v) = %d, and then %d", first, s, again)
		}
	}
}

// R3: what List tells is nobody else's.
func TestListKeepsOff(t *testing.T) {
	for _, s := range []api.Set{0, 1, 5, 1 << 12, 4097, 8191, 0xe000, 0xffff} {
		one, other := quorum.List(s), quorum.List(s)
		want := brokersOf(int(s))
		one = one[:cap(one)]
		for i := range one {
			one[i] = -9
		}
		if !slices.Equal(other, want) || !slices.Equal(quorum.List(s), want) {
			t.Errorf("List(%b) sees what is written: %v, %v", s, other, quorum.List(s))
		}
		third := quorum.List(s)
		one, other = append(third, 77), append(third[:len(third):len(third)], 78)
		if !slices.Equal(quorum.List(s), want) || !slices.Equal(third, want) {
			t.Errorf("List(%b) sees what is put behind: %v, %v", s, one, other)
		}
	}
}
