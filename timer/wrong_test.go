package timer_test

import (
	"math/rand"
	"slices"
	"testing"

	"bulla/api"
	"bulla/timer"
)

// P17.1: all calls take each timer that may not be as New; Check refuses it.
func TestWrong(t *testing.T) {
	for _, x := range wrongTimers() {
		says(t, x, asNew())
	}
}

// P17.1: the zero timer is not New.
func TestZero(t *testing.T) {
	var x api.Timer
	if x == timer.New() || timer.Check(x) != api.ErrArg {
		t.Errorf("New() = %v, Check of the zero timer: %d", timer.New(), timer.Check(x))
	}
	says(t, x, asNew())
}

// P17.1: of all lengths there are around, just ten may be, with whatever may be left of such a one.
func TestJustThese(t *testing.T) {
	for length := -5000; length <= 20000; length++ {
		x := api.Timer{Length: length}
		want := api.ErrArg
		if slices.Contains(lengths(), length) {
			want = api.OK
		}
		if e := timer.Check(x); e != want {
			t.Errorf("Check(%v) = %d, want %d", x, e, want)
		}
	}
	for _, length := range lengths() {
		for left := -20; left <= 9000; left++ {
			x := api.Timer{Length: length, Left: left}
			want := api.ErrArg
			if left >= 0 && left <= length {
				want = api.OK
			}
			if e := timer.Check(x); e != want {
				t.Errorf("Check(%v) = %d, want %d", x, e, want)
			}
		}
	}
}

// P17.1: a length and what is left, of whichever kinds, are held together.
func TestAnyPair(t *testing.T) {
	numbers := append(wrongLengths(), lengths()...)
	for _, length := range numbers {
		for _, left := range numbers {
			x := api.Timer{Length: length, Left: left}
			if slices.Contains(lengths(), length) && left >= 0 && left <= length {
				says(t, x, asGood(x))
			} else {
				says(t, x, asNew())
			}
		}
	}
}

// P17.1: numbers of any size; hardly one may be.
func TestAnyNumbers(t *testing.T) {
	dice := rand.New(rand.NewSource(17))
	for range 200000 {
		x := api.Timer{Length: int(dice.Uint64()) >> dice.Intn(64), Left: int(dice.Uint64()) >> dice.Intn(64)}
		if slices.Contains(lengths(), x.Length) && x.Left >= 0 && x.Left <= x.Length {
			says(t, x, asGood(x))
		} else {
			says(t, x, asNew())
		}
	}
}
