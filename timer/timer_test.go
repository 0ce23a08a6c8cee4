package timer_test

import (
	"testing"

	"bulla/api"
	"bulla/timer"
)

// The chapter's examples, and its limits.
func TestExamples(t *testing.T) {
	x := timer.Start(timer.New())
	if x != (api.Timer{Length: 8, Left: 8}) {
		t.Errorf("Start of New: %v", x)
	}
	for i := range 8 {
		var out bool
		if x, out = timer.Tick(x); out != (i == 7) || x != (api.Timer{Length: 8, Left: 7 - i}) {
			t.Errorf("Tick %d: %v, %v", i+1, x, out)
		}
	}
	if x = timer.Double(x); x != (api.Timer{Length: 16, Left: 16}) {
		t.Errorf("Double: %v", x)
	}
	if n := timer.Total(3); n != 56 {
		t.Errorf("Total(3) = %d", n)
	}
	if api.Patience != 8 || api.MaxWait != 4096 {
		t.Errorf("the limits are others: %d, %d", api.Patience, api.MaxWait)
	}
}

// P17.1: New, which may be and does not run.
func TestNew(t *testing.T) {
	x := timer.New()
	if x != (api.Timer{Length: 8, Left: 0}) || timer.Check(x) != api.OK || timer.Runs(x) {
		t.Errorf("New() = %v", x)
	}
	want := asNew()
	want.check = api.OK
	says(t, x, want)
}

// P17.1: told one by one, a length and what is left each: of this, what Start, Stop, Again, Double, Calm and Tick make.
func TestByHand(t *testing.T) {
	for _, x := range []struct {
		of   [2]int
		runs bool
		made [6][2]int
		out  bool
	}{
		{[2]int{8, 0}, false, [6][2]int{{8, 8}, {8, 0}, {8, 8}, {16, 16}, {8, 0}, {8, 0}}, false},
		{[2]int{8, 1}, true, [6][2]int{{8, 1}, {8, 0}, {8, 8}, {16, 16}, {8, 1}, {8, 0}}, true},
		{[2]int{8, 2}, true, [6][2]int{{8, 2}, {8, 0}, {8, 8}, {16, 16}, {8, 2}, {8, 1}}, false},
		{[2]int{8, 4}, true, [6][2]int{{8, 4}, {8, 0}, {8, 8}, {16, 16}, {8, 4}, {8, 3}}, false},
		{[2]int{8, 7}, true, [6][2]int{{8, 7}, {8, 0}, {8, 8}, {16, 16}, {8, 7}, {8, 6}}, false},
		{[2]int{8, 8}, true, [6][2]int{{8, 8}, {8, 0}, {8, 8}, {16, 16}, {8, 8}, {8, 7}}, false},
		{[2]int{16, 0}, false, [6][2]int{{16, 16}, {16, 0}, {16, 16}, {32, 32}, {8, 0}, {16, 0}}, false},
		{[2]int{16, 1}, true, [6][2]int{{16, 1}, {16, 0}, {16, 16}, {32, 32}, {8, 1}, {16, 0}}, true},
		{[2]int{16, 7}, true, [6][2]int{{16, 7}, {16, 0}, {16, 16}, {32, 32}, {8, 7}, {16, 6}}, false},
		{[2]int{16, 8}, true, [6][2]int{{16, 8}, {16, 0}, {16, 16}, {32, 32}, {8, 8}, {16, 7}}, false},
		{[2]int{16, 9}, true, [6][2]int{{16, 9}, {16, 0}, {16, 16}, {32, 32}, {8, 8}, {16, 8}}, false},
		{[2]int{16, 15}, true, [6][2]int{{16, 15}, {16, 0}, {16, 16}, {32, 32}, {8, 8}, {16, 14}}, false},
		{[2]int{16, 16}, true, [6][2]int{{16, 16}, {16, 0}, {16, 16}, {32, 32}, {8, 8}, {16, 15}}, false},
		{[2]int{512, 0}, false, [6][2]int{{512, 512}, {512, 0}, {512, 512}, {1024, 1024}, {8, 0}, {512, 0}}, false},
		{[2]int{512, 256}, true, [6][2]int{{512, 256}, {512, 0}, {512, 512}, {1024, 1024}, {8, 8}, {512, 255}}, false},
		// half of MaxWait, and MaxWait, of which there is no double
		{[2]int{2048, 0}, false, [6][2]int{{2048, 2048}, {2048, 0}, {2048, 2048}, {4096, 4096}, {8, 0}, {2048, 0}}, false},
		{[2]int{2048, 1}, true, [6][2]int{{2048, 1}, {2048, 0}, {2048, 2048}, {4096, 4096}, {8, 1}, {2048, 0}}, true},
		{[2]int{2048, 2048}, true, [6][2]int{{2048, 2048}, {2048, 0}, {2048, 2048}, {4096, 4096}, {8, 8}, {2048, 2047}}, false},
		{[2]int{4096, 0}, false, [6][2]int{{4096, 4096}, {4096, 0}, {4096, 4096}, {4096, 4096}, {8, 0}, {4096, 0}}, false},
		{[2]int{4096, 1}, true, [6][2]int{{4096, 1}, {4096, 0}, {4096, 4096}, {4096, 4096}, {8, 1}, {4096, 0}}, true},
		{[2]int{4096, 2}, true, [6][2]int{{4096, 2}, {4096, 0}, {4096, 4096}, {4096, 4096}, {8, 2}, {4096, 1}}, false},
		{[2]int{4096, 2048}, true, [6][2]int{{4096, 2048}, {4096, 0}, {4096, 4096}, {4096, 4096}, {8, 8}, {4096, 2047}}, false},
		{[2]int{4096, 4095}, true, [6][2]int{{4096, 4095}, {4096, 0}, {4096, 4096}, {4096, 4096}, {8, 8}, {4096, 4094}}, false},
		{[2]int{4096, 4096}, true, [6][2]int{{4096, 4096}, {4096, 0}, {4096, 4096}, {4096, 4096}, {8, 8}, {4096, 4095}}, false},
	} {
		m := x.made
		says(t, of(x.of), answers{
			check: api.OK, runs: x.runs,
			start: of(m[0]), stop: of(m[1]), again: of(m[2]), double: of(m[3]), calm: of(m[4]),
			tick: of(m[5]), out: x.out,
		})
	}
}

// of is the timer of a length and what is left.
func of(l [2]int) api.Timer {
	return api.Timer{Length: l[0], Left: l[1]}
}

// P17.1: all calls, of each timer that may be.
func TestGood(t *testing.T) {
	all := goodTimers()
	if len(all) != 8184+10 {
		t.Fatalf("%d timers that may be", len(all))
	}
	for _, x := range all {
		says(t, x, asGood(x))
	}
}

// P17.1: from New on, doubled as often as may be, each length comes, and then the greatest stays; Calm leads back.
func TestLengths(t *testing.T) {
	x := timer.New()
	for i, length := range lengths() {
		if x.Length != length {
			t.Errorf("doubled %d times: %v", i, x)
		}
		if c := timer.Calm(x); c.Length != 8 || timer.Double(c) != (api.Timer{Length: 16, Left: 16}) {
			t.Errorf("Calm of %v = %v", x, c)
		}
		if c := timer.Calm(timer.Stop(x)); c != timer.New() {
			t.Errorf("Calm of %v, stopped: %v", x, c)
		}
		x = timer.Double(x)
	}
	for range 100 {
		if x = timer.Double(x); x != (api.Timer{Length: 4096, Left: 4096}) {
			t.Fatalf("Double of the greatest: %v", x)
		}
	}
}
