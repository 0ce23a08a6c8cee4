package timer_test

import (
	"math"
	"testing"

	"bulla/api"
	"bulla/timer"
)

// P17.2: told one by one.
func TestTotalByHand(t *testing.T) {
	for _, x := range []struct {
		n    int
		want int64
	}{
		{-1, 0}, {-2, 0}, {-3, 0}, {-8, 0}, {-1 << 20, 0}, {-1 << 32, 0}, {1 - 1<<32, 0}, {-1 << 62, 0}, {math.MinInt, 0}, {math.MinInt + 1, 0}, {math.MinInt + 3, 0},
		{0, 0}, {1, 8}, {2, 24}, {3, 56}, {4, 120}, {5, 248}, {6, 504}, {7, 1016},
		// it is doubled nine times until its length is MaxWait, and has run out ten times with that
		{8, 2040}, {9, 4088}, {10, 8184}, {11, 12280}, {12, 16376}, {13, 20472},
		{100, 376824}, {1000, 4063224}, {1 << 16, 268402680},
		{1<<20 - 2, 4294926328}, {1<<20 - 1, 4294930424}, {1 << 20, 4294934520}, {1<<20 + 1, 4294934520}, {1<<20 + 2, 4294934520}, {1<<20 + 9, 4294934520},
		{1 << 21, 4294934520}, {1 << 31, 4294934520}, {1 << 32, 4294934520}, {1<<32 + 3, 4294934520}, {1 << 53, 4294934520}, {1 << 62, 4294934520},
		{math.MaxInt, 4294934520}, {math.MaxInt - 1, 4294934520},
	} {
		if n := timer.Total(x.n); n != x.want {
			t.Errorf("Total(%d) = %d, want %d", x.n, n, x.want)
		}
	}
}

// P17.2, P17.3: Ticks counted one by one, where it is doubled each time that it runs out.
func TestTotalByTicks(t *testing.T) {
	x, ticks := timer.Start(timer.New()), int64(0)
	for n := 1; n <= 1000; n++ {
		for out := false; !out; ticks++ {
			if !timer.Runs(x) || ticks > int64(n)*4096 {
				t.Fatalf("behind %d ticks it has run out %d times: %v", ticks, n-1, x)
			}
			x, out = timer.Tick(x)
		}
		if total := timer.Total(n); total != ticks {
			t.Fatalf("Total(%d) = %d, counted %d", n, total, ticks)
		}
		x = timer.Double(x)
	}
}

// P17.2, P17.4: of each n that there is, by adding up lengths; THE BOUND, as each is asked for.
func TestTotal(t *testing.T) {
	x, ticks := timer.Start(timer.New()), int64(0)
	for n := 1; n <= 1<<20; n++ {
		ticks += int64(x.Length)
		x = timer.Double(x)
		total := timer.Total(n)
		if total != ticks {
			t.Fatalf("Total(%d) = %d, want %d", n, total, ticks)
		}
		if total > int64(n)*api.MaxWait {
			t.Fatalf("Total(%d) = %d, more than so many times MaxWait", n, total)
		}
		if before := timer.Total(n - 1); total <= before {
			t.Fatalf("Total(%d) = %d, of one less it is %d", n, total, before)
		}
	}
}

// P17.2: beyond what is counted, and below 0, it stays.
func TestTotalBeyond(t *testing.T) {
	for n := 1; n > 0; n *= 2 {
		if below := timer.Total(-n); below != 0 {
			t.Errorf("Total(%d) = %d", -n, below)
		}
		if most := timer.Total(1<<20 + n); most != 4294934520 {
			t.Errorf("Total(%d) = %d", 1<<20+n, most)
		}
	}
}
