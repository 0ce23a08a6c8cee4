package quorum_test

import (
	"math"
	"testing"

	"bulla/api"
	"bulla/quorum"
)

// The chapter's example.
func TestExample(t *testing.T) {
	if n, big, small := quorum.Brokers(1), quorum.Big(1), quorum.Small(1); n != 4 || big != 3 || small != 2 {
		t.Errorf("Brokers, Big, Small of 1: %d, %d, %d", n, big, small)
	}
	if p, n := quorum.Primary(1, 5), quorum.Next(1, 5, 1); p != 1 || n != 9 {
		t.Errorf("Primary(1, 5) = %d, Next(1, 5, 1) = %d", p, n)
	}
	if s, b := quorum.Of(0, 2), quorum.Both(7, 12); s != 5 || b != 4 {
		t.Errorf("Of(0, 2) = %d, Both(7, 12) = %d", s, b)
	}
	least(t, 2, []int64{9, 1, 5}, 5, api.OK)
}

// P12.1: each f that may be.
func TestFaults(t *testing.T) {
	for _, c := range clusters() {
		if e := quorum.Check(c.f); e != api.OK {
			t.Errorf("Check(%d) = %d", c.f, e)
		}
		if n, big, small := quorum.Brokers(c.f), quorum.Big(c.f), quorum.Small(c.f); n != c.brokers || big != c.big || small != c.small {
			t.Errorf("Brokers, Big, Small of %d: %d, %d, %d", c.f, n, big, small)
		}
	}
	if last := clusters()[api.MaxF-1]; last.f != api.MaxF || last.brokers != api.MaxBrokers {
		t.Errorf("the limits are others: %d, %d", api.MaxF, api.MaxBrokers)
	}
}

// P12.1: each f that may not be, whatever else is asked.
func TestWrongFaults(t *testing.T) {
	for _, f := range wrongFaults() {
		if e := quorum.Check(f); e != api.ErrFaults {
			t.Errorf("Check(%d) = %d", f, e)
		}
		if n, big, small := quorum.Brokers(f), quorum.Big(f), quorum.Small(f); n != 0 || big != 0 || small != 0 {
			t.Errorf("Brokers, Big, Small of %d: %d, %d, %d", f, n, big, small)
		}
		for _, view := range append(someViews(), wrongViews()...) {
			if p := quorum.Primary(f, view); p != -1 {
				t.Errorf("Primary(%d, %d) = %d", f, view, p)
			}
			for _, broker := range append(wrongBrokers(4), 0, 1, 3) {
				if n := quorum.Next(f, view, broker); n != -1 {
					t.Errorf("Next(%d, %d, %d) = %d", f, view, broker, n)
				}
			}
		}
	}
}

// P12.1: primaries, told one by one.
func TestPrimaryByHand(t *testing.T) {
	for _, x := range []struct {
		f    int
		view int64
		want int
	}{
		{1, 0, 0}, {1, 1, 1}, {1, 3, 3}, {1, 4, 0}, {1, 7, 3}, {1, 8, 0},
		{2, 0, 0}, {2, 6, 6}, {2, 7, 0}, {2, 20, 6},
		{3, 0, 0}, {3, 9, 9}, {3, 10, 0}, {3, 123, 3},
		{4, 0, 0}, {4, 12, 12}, {4, 13, 0}, {4, 38, 12},
		// 2^53 leaves 0, 4, 2 and 6 of 4, 7, 10 and 13
		{1, api.MaxNum, 0}, {2, api.MaxNum, 4}, {3, api.MaxNum, 2}, {4, api.MaxNum, 6},
		{1, api.MaxNum - 1, 3}, {2, api.MaxNum - 1, 3}, {3, api.MaxNum - 1, 1}, {4, api.MaxNum - 1, 5},
		{1, api.MaxNum + 1, -1}, {2, api.MaxNum + 1, -1}, {3, api.MaxNum + 1, -1}, {4, api.MaxNum + 1, -1},
		{1, -1, -1}, {2, -1, -1}, {3, -1, -1}, {4, -1, -1},
		{1, math.MaxInt64, -1}, {4, math.MaxInt64, -1}, {1, math.MinInt64, -1}, {4, math.MinInt64, -1},
	} {
		if p := quorum.Primary(x.f, x.view); p != x.want {
			t.Errorf("Primary(%d, %d) = %d, want %d", x.f, x.view, p, x.want)
		}
	}
}

// P12.1: primaries of each f, of views that may be and others.
func TestPrimary(t *testing.T) {
	for _, c := range clusters() {
		for _, view := range someViews() {
			p := quorum.Primary(c.f, view)
			if p < 0 || p >= c.brokers || (view-int64(p))%int64(c.brokers) != 0 {
				t.Errorf("Primary(%d, %d) = %d", c.f, view, p)
			}
		}
		for _, view := range wrongViews() {
			if p := quorum.Primary(c.f, view); p != -1 {
				t.Errorf("Primary(%d, %d) = %d", c.f, view, p)
			}
		}
	}
}

// P12.1: views in which somebody leads next, told one by one.
func TestNextByHand(t *testing.T) {
	for _, x := range []struct {
		f      int
		view   int64
		broker int
		want   int64
	}{
		{1, 0, 0, 4}, {1, 0, 1, 1}, {1, 0, 3, 3}, {1, 3, 3, 7}, {1, 3, 0, 4}, {1, 3, 2, 6},
		{1, 5, 1, 9}, {1, 5, 2, 6}, {1, 5, 0, 8},
		{2, 0, 0, 7}, {2, 0, 6, 6}, {2, 6, 6, 13}, {2, 6, 5, 12}, {2, 10, 3, 17}, {2, 10, 4, 11},
		{3, 0, 0, 10}, {3, 9, 9, 19}, {3, 9, 8, 18}, {3, 15, 6, 16},
		{4, 0, 0, 13}, {4, 0, 12, 12}, {4, 12, 12, 25}, {4, 12, 0, 13}, {4, 20, 6, 32},
		// the view that is told is just MaxNum, or would be one above
		{1, api.MaxNum - 4, 0, api.MaxNum}, {1, api.MaxNum - 3, 0, api.MaxNum}, {1, api.MaxNum - 1, 0, api.MaxNum},
		{1, api.MaxNum - 3, 1, -1}, {1, api.MaxNum - 1, 1, -1}, {1, api.MaxNum - 4, 1, api.MaxNum - 3},
		{2, api.MaxNum - 7, 4, api.MaxNum}, {2, api.MaxNum - 1, 4, api.MaxNum}, {2, api.MaxNum - 6, 5, -1}, {2, api.MaxNum - 7, 5, api.MaxNum - 6},
		{3, api.MaxNum - 10, 2, api.MaxNum}, {3, api.MaxNum - 1, 2, api.MaxNum}, {3, api.MaxNum - 9, 3, -1}, {3, api.MaxNum - 10, 3, api.MaxNum - 9},
		{4, api.MaxNum - 13, 6, api.MaxNum}, {4, api.MaxNum - 1, 6, api.MaxNum}, {4, api.MaxNum - 12, 7, -1}, {4, api.MaxNum - 13, 7, api.MaxNum - 12},
		{1, api.MaxNum, 0, -1}, {1, api.MaxNum, 1, -1}, {4, api.MaxNum, 6, -1}, {4, api.MaxNum, 7, -1},
	} {
		if n := quorum.Next(x.f, x.view, x.broker); n != x.want {
			t.Errorf("Next(%d, %d, %d) = %d, want %d", x.f, x.view, x.broker, n, x.want)
		}
	}
}

// next is the view in which a broker leads next, by going through the views.
func next(c cluster, view int64, broker int) int64 {
	for v := view + 1; v <= 1<<53; v++ {
		if v%int64(c.brokers) == int64(broker) {
			return v
		}
	}
	return -1
}

// P12.1: each broker of each f, from views that may be, and others.
func TestNext(t *testing.T) {
	for _, c := range clusters() {
		for broker := range c.brokers {
			for _, view := range someViews() {
				n, want := quorum.Next(c.f, view, broker), next(c, view, broker)
				if n != want {
					t.Errorf("Next(%d, %d, %d) = %d, want %d", c.f, view, broker, n, want)
				}
				if n != -1 && (n <= view || quorum.Primary(c.f, n) != broker) {
					t.Errorf("Next(%d, %d, %d) = %d, where %d leads", c.f, view, broker, n, quorum.Primary(c.f, n))
				}
			}
			for _, view := range wrongViews() {
				if n := quorum.Next(c.f, view, broker); n != -1 {
					t.Errorf("Next(%d, %d, %d) = %d", c.f, view, broker, n)
				}
			}
		}
	}
}

// P12.1: Next of a broker that there is not, from any view.
func TestNextOfNobody(t *testing.T) {
	for _, c := range clusters() {
		for _, broker := range wrongBrokers(c.brokers) {
			for _, view := range append(someViews(), wrongViews()...) {
				if n := quorum.Next(c.f, view, broker); n != -1 {
					t.Errorf("Next(%d, %d, %d) = %d", c.f, view, broker, n)
				}
			}
		}
	}
}

// P12.6: of Brokers(f) views in a row each broker leads just one.
func TestEachLeads(t *testing.T) {
	for _, c := range clusters() {
		n := int64(c.brokers)
		for _, first := range []int64{0, 1, 2, 5, n - 1, n, n + 1, 1000, 1<<31 - 2, 1<<32 - 2, api.MaxNum / 3, api.MaxNum - n, api.MaxNum - n + 1} {
			led := make([]int, c.brokers)
			for view := first; view < first+n; view++ {
				led[quorum.Primary(c.f, view)]++
			}
			for broker, times := range led {
				if times != 1 {
					t.Errorf("f %d, from view %d: broker %d leads %d times", c.f, first, broker, times)
				}
			}
		}
	}
}
