package timer_test

import (
	"math/rand"
	"slices"
	"testing"

	"bulla/api"
	"bulla/timer"
)

// P17.3: what a call answers may be, whatever it was handed.
func TestStaysOne(t *testing.T) {
	for _, x := range append(goodTimers(), wrongTimers()...) {
		for i, y := range ask(x).given() {
			if !slices.Contains(lengths(), y.Length) || y.Left < 0 || y.Left > y.Length || timer.Check(y) != api.OK {
				t.Fatalf("of %v, answer %d: %v", x, i, y)
			}
		}
	}
}

// P17.3: each timer that runs, runs out behind just as many ticks as are left, and then no more.
func TestRunsOut(t *testing.T) {
	for _, x := range goodTimers() {
		y, left := x, x.Left
		for left > 0 {
			z, out := timer.Tick(y)
			left--
			if z != (api.Timer{Length: x.Length, Left: left}) || out != (left == 0) || timer.Runs(z) != (left > 0) {
				t.Fatalf("of %v, %d left: Tick of %v = %v, %v", x, left, y, z, out)
			}
			y = z
		}
		for range 3 {
			if z, out := timer.Tick(y); z != y || out || timer.Runs(z) {
				t.Fatalf("%v, which does not run: Tick = %v, %v", y, z, out)
			}
		}
	}
}

// P17.3: as many ticks as are left by whichever call, whatever that was handed.
func TestRunsOutBehind(t *testing.T) {
	for _, x := range append(someTimers(), wrongTimers()...) {
		for i, y := range ask(x).given() {
			ticks := 0
			for z := y; timer.Runs(z) && ticks <= 4096; ticks++ {
				z, _ = timer.Tick(z)
			}
			if ticks != y.Left {
				t.Fatalf("of %v, answer %d: %v, ran out behind %d", x, i, y, ticks)
			}
		}
	}
}

// calls are those that make a timer of another one, and what the chapter's words make of it.
func calls() []func(x api.Timer) (api.Timer, api.Timer) {
	return []func(x api.Timer) (api.Timer, api.Timer){
		func(x api.Timer) (api.Timer, api.Timer) { return timer.Start(x), asGood(x).start },
		func(x api.Timer) (api.Timer, api.Timer) { return timer.Stop(x), asGood(x).stop },
		func(x api.Timer) (api.Timer, api.Timer) { return timer.Again(x), asGood(x).again },
		func(x api.Timer) (api.Timer, api.Timer) { return timer.Double(x), asGood(x).double },
		func(x api.Timer) (api.Timer, api.Timer) { return timer.Calm(x), asGood(x).calm },
		func(x api.Timer) (api.Timer, api.Timer) { y, _ := timer.Tick(x); return y, asGood(x).tick },
	}
}

// P17.1, P17.3: any calls behind each other, as a broker may make them.
func TestWalks(t *testing.T) {
	dice := rand.New(rand.NewSource(1))
	seen := map[int]bool{}
	for range 200 {
		x := timer.New()
		for range 300 {
			which := dice.Intn(2 * len(calls()))
			if which >= len(calls()) { // ticks and doubles come most, so that it becomes great
				which = 3 + which%2*2
			}
			y, want := calls()[which](x)
			if y != want || timer.Check(y) != api.OK {
				t.Fatalf("call %d of %v = %v, want %v", which, x, y, want)
			}
			x = y
			seen[x.Length] = true
		}
	}
	if len(seen) != len(lengths()) {
		t.Errorf("lengths seen: %v", seen)
	}
}

// R3, R6: a timer that is handed in stays as it was; what is written to it and to an answer later, no call sees; the same calls answer the same.
func TestValues(t *testing.T) {
	for _, x := range append(someTimers(), wrongTimers()...) {
		handed := &api.Timer{Length: x.Length, Left: x.Left}
		first, total := ask(*handed), timer.Total(handed.Left)
		if *handed != x {
			t.Fatalf("%v became %v", x, *handed)
		}
		n := timer.New()
		for _, y := range append(first.given(), n, *handed) {
			y.Length, y.Left = -1, 99
			ask(y)
		}
		handed.Length, handed.Left = 64, 3
		if again := ask(x); again != first || timer.Total(x.Left) != total {
			t.Errorf("of %v first %+v, then %+v", x, first, again)
		}
		if timer.New() != n {
			t.Fatalf("New() first %v, then %v", n, timer.New())
		}
	}
}

// Timers that are the same are answered the same, wherever they stand: in a list, behind a pointer, as a key.
func TestHeldAgainstEachOther(t *testing.T) {
	all := map[api.Timer]int{}
	for _, x := range goodTimers() {
		all[x]++
	}
	for _, x := range goodTimers() {
		y := &api.Timer{Length: x.Length, Left: x.Left}
		if all[*y] != 1 || ask(*y) != ask(x) {
			t.Errorf("%v and %v", x, *y)
		}
		for _, z := range ask(*y).given() {
			if all[z] != 1 {
				t.Errorf("of %v: %v", x, z)
			}
		}
		if *y != x {
			t.Errorf("%v became %v", x, *y)
		}
	}
}
